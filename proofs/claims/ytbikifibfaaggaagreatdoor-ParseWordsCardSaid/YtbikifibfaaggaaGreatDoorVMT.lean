import Derived.Test.YtbikifibfaaggaaGreatDoorVQNot2
import Derived.Test.YtbikifibfaaggaaGreatDoorVMH
namespace Go.Proofs.YtbikifibfaaggaaGreatDoor
section
set_option maxHeartbeats 4000000
set_option maxRecDepth 100000
open Go.RowKit Go.Shelf
open Lx (Tok Tx)
open Px (Ex Cn)
abbrev candL (g : Nat) (x : Cn) : List Tok → Nat → Nat → Px.R Cn := fun ts o _ => Px.andL g o x ts
abbrev ccondL (g : Nat) (x : Cn) : List Tok → Nat → Nat → Px.R Cn := fun ts o _ => Px.condL g o x ts
def LoopC (F : Nat → Cn → List Tok → Nat → Nat → Px.R Cn) (f c n b lo o k : Nat) (R : Option Cn × St) (w : World) (v : Value) (wr : World) : Prop :=
 IsPtr v ∧ Keeps [b] w wr ∧ ∃ σ, SA wr b n σ ∧ ((∃ g x l, g ≤ f ∧ 4 * l.length + c ≤ g ∧ σ = .live l o k ∧ CnAt wr lo x v ∧ R = σ.lift n kI (F g x)) ∨ (∃ z p, σ = .dead z p o ∧ R = (none, σ)))
theorem loopC_start {F : Nat → Cn → List Tok → Nat → Nat → Px.R Cn} {G : List Tok → Nat → Nat → Px.R Cn} {T : List Tok → Nat → Nat → Px.R Cn} {f c n b lo o k : Nat} {ts : List Tok} {w wr : World} {v : Value}
 (hok : ∀ x r, G ts o k = .ok x r → (St.live ts o k).lift n kI T = (St.live r o k).lift n kI (F f x) ∧ 4 * r.length + c ≤ f) (herr : ∀ z r, G ts o k = .err z r → (St.live ts o k).lift n kI T = (none, .dead z (Px.place n r) o))
 (hv : IsPtr v) (hk : Keeps [b] w wr) (hs : SA wr b n ((St.live ts o k).lift n kI G).2) (ha : ∀ a, ((St.live ts o k).lift n kI G).1 = some a → CnAt wr lo a v) : LoopC F f c n b lo o k ((St.live ts o k).lift n kI T) w v wr := by
 refine ⟨hv, hk, _, hs, ?_⟩
 rcases St.lift_cases n G ts o k with ⟨a, r, h1, h2⟩ | ⟨z, r, h1, h2⟩
 ·
  rw [h2] at ha ⊢
  exact .inl ⟨f, a, r, Nat.le_refl _, (hok a r h1).2, rfl, ha a rfl, (hok a r h1).1⟩
 ·
  rw [h2]
  exact .inr ⟨z, _, rfl, herr z r h1⟩
theorem loopC_next {FL : Nat → Cn → List Tok → Nat → Nat → Px.R Cn} {G : List Tok → Nat → Nat → Px.R Cn} {f g c n b lo o k K : Nat} {x : Cn} {l : List Tok} {R : Option Cn × St} {w wr : World} {q q2 : Option Addr}
 (hR : R = (St.live l o k).lift n kI (FL (g + 1) x)) (hg : g + 1 ≤ f) (hgl : 4 * l.tail.length + 4 + c ≤ g + 1)
 (hok : ∀ y r, G l.tail o k = .ok y r → (St.live l o k).lift n kI (FL (g + 1) x) = (St.live r o k).lift n kI (FL g (.two K x y))) (herr : ∀ z r, G l.tail o k = .err z r → (St.live l o k).lift n kI (FL (g + 1) x) = (none, .dead z (Px.place n r) o))
 (hlen : ∀ y r, G l.tail o k = .ok y r → r.length < l.tail.length)
 (hk : Keeps [b] w wr) (hs : SA wr b n ((St.live l.tail o k).lift n kI G).2) (ha : ∀ a, ((St.live l.tail o k).lift n kI G).1 = some a → CnAt wr lo a (.pointer q2)) (hx : CnAt wr lo x (.pointer q)) (hlo : lo < wr.heap.size) :
 LoopC FL f c n b lo o k R w (.pointer (some ⟨wr.heap.size, 0, none⟩)) (wr.alloc (.cells #[.int .i64 (K : Int), .pointer none, .pointer none, .pointer q, .pointer q2, .string .empty] 105)) := by
 refine ⟨⟨_, rfl⟩, hk.alloc _, _, hs.keep ((Keeps.refl _ _).alloc _), ?_⟩
 rcases St.lift_cases n G l.tail o k with ⟨a, r, h1, h2⟩ | ⟨z, r, h1, h2⟩
 ·
  rw [h2] at ha ⊢
  have := hlen a r h1
  exact .inl ⟨g, .two K x a, r, by omega, by omega, rfl, ⟨_, _, _, rfl, hlo, heap_alloc_new _ _, hx.alloc _, (ha a rfl).alloc _⟩, hR.trans (hok a r h1)⟩
 ·
  rw [h2]
  exact .inr ⟨z, _, rfl, hR.trans (herr z r h1)⟩
theorem sees_tail2 {l : List Tok} {s : Tx} (hs : s ≠ []) (h : Px.sees l s = true) : l.tail.length + 1 = l.length := by
 obtain ⟨t, r, rfl, _⟩ := sees_cons hs h
 simp
theorem andL_none {n g o k : Nat} {x : Cn} {l : List Tok} (h : Px.sees l [38, 38] = false) : (St.live l o k).lift n kI (candL (g + 1) x) = (some x, .live l o k) := by
 have hu : Px.andL (g + 1) o x l = .ok x l := by rw [Px.andL]; simp only [h]; rfl
 simp only [St.lift, candL, hu, kI]
theorem andL_ok {n g o k : Nat} {x y : Cn} {l r : List Tok} (h : Px.sees l [38, 38] = true) (hu : Px.not g o l.tail = .ok y r) : (St.live l o k).lift n kI (candL (g + 1) x) = (St.live r o k).lift n kI (candL g (.two 6 x y)) := by
 have hu : Px.andL (g + 1) o x l = Px.andL g o (.two 6 x y) r := by rw [Px.andL]; simp only [h, hu]; rfl
 simp only [St.lift, candL, hu]
theorem andL_err {n g o k z : Nat} {x : Cn} {l r : List Tok} (h : Px.sees l [38, 38] = true) (hu : Px.not g o l.tail = .err z r) : (St.live l o k).lift n kI (candL (g + 1) x) = (none, .dead z (Px.place n r) o) := by
 have hu : Px.andL (g + 1) o x l = .err z r := by rw [Px.andL]; simp only [h, hu]; rfl
 simp only [St.lift, candL, hu]
theorem and_ok {n f o k : Nat} {x : Cn} {ts r : List Tok} (h : Px.not f o ts = .ok x r) : (St.live ts o k).lift n kI (cand (f + 1)) = (St.live r o k).lift n kI (candL f x) := by
 have hu : Px.and (f + 1) o ts = Px.andL f o x r := by rw [Px.and]; simp only [h]
 simp only [St.lift, cand, candL, hu]
theorem and_err {n f o k z : Nat} {ts r : List Tok} (h : Px.not f o ts = .err z r) : (St.live ts o k).lift n kI (cand (f + 1)) = (none, .dead z (Px.place n r) o) := by
 have hu : Px.and (f + 1) o ts = .err z r := by rw [Px.and]; simp only [h]
 simp only [St.lift, cand, hu]
theorem qand_live (f : Nat) (w : World) (b n : Nat) (ts : List Tok) (o k lo : Nat) (h : SA w b n (.live ts o k)) (ho2 : o ≤ 1000) (hf : 4 * ts.length + 6 ≤ f + 1) (hb : b ≤ lo) (hlo : lo < w.heap.size) (hE : ∀ g, g ≤ f → QC g) :
 Calls Tryz.prog 153 #[pp b] w (QS CnAt IsPtr lo w b n ((St.live ts o k).lift n kI (cand (f + 1)))) := by
 have HU := Hd ((hE f (Nat.le_refl _)).not w b n (.live ts o k) lo h ⟨ho2, by omega⟩ hb hlo)
 have HST := Hd (fun (wr : World) (v : Value) => loopC_start (F := candL) (G := cnot f) (T := cand (f + 1)) (f := f) (c := 6) (n := n) (b := b) (lo := lo) (o := o) (k := k) (ts := ts) (w := w) (wr := wr) (v := v) (fun x r h => ⟨and_ok h, by have := (Px.cn_len _).1 _ _ _ _ h; omega⟩) (fun z r h => and_err h))
 obtain ⟨R, hR0⟩ : ∃ R, R = (St.live ts o k).lift n kI (cand (f + 1)) := ⟨_, rfl⟩
 rw [← hR0] at HST ⊢
 clear h hR0 hf
 go_enter Tryz.func153, Tryz.ntmps153
 go_wp2_with fail
 refine (HU.out).mono ?_
 rintro e w1 ⟨v, rfl, ⟨q, rfl⟩, hk, hs, ha⟩
 have HST := Hd (HST.out w1 _ ⟨q, rfl⟩ hk hs ha)
 clear hk hs ha HU
 go_wp2_with fail
 go_loopw [3] (fun ev wr => LoopC candL f 6 n b lo o k R w ev wr) (fun _ wr => qrank wr b)
 case atStart => exact HST.out
 case round =>
  obtain ⟨hv, hk, σ, hs, hc⟩ := hrel
  obtain ⟨q, rfl⟩ := hv
  have HT := Hd (qtake_any wr b n σ hs [38, 38])
  by_cases hy : σ.sees [38, 38] = true
  ·
   rcases hc with ⟨g, x, l, hg, hgl, rfl, hx, hR⟩ | ⟨z, p, rfl, hR⟩
   ·
    have HS0 := Hd hs
    match g, hgl with
    | g + 1, hgl =>
    have htk : (St.live l o k).take [38, 38] = .live l.tail o k := by unfold St.take; rw [if_pos hy]; rfl
    rw [htk, hy] at HT
    have hll := sees_tail2 (by simp) hy
    have HX := Hd hx
    have HK := Hd hk
    have HR := Hd hR
    have HY := Hd (show Px.sees l [38, 38] = true from hy)
    have HLL := Hd hll
    have HU := Hd (fun w' (h' : SA w' b n (.live l.tail o k)) (hlo' : lo < w'.heap.size) => (hE g (by omega)).not w' b n (.live l.tail o k) lo h' ⟨ho2, by omega⟩ hb hlo')
    clear hx hs hk hR hll hy htk
    go_wp2_with fail
    refine (HT.out).mono ?_
    rintro e w2 ⟨rfl, hs, hk⟩
    have HK := zV HK hk
    have HX := Hd (HX.out.keep hk (by simp; omega))
    have HS := Hd hs
    clear hk hs
    go_wp2_with fail
    refine (HU.out _ HS.out (by have := HK.out.size; omega)).mono ?_
    rintro e w9 ⟨v, rfl, ⟨q2, rfl⟩, hk, hs, ha⟩
    have HK := zV HK hk
    have HX := Hd (HX.out.keep hk (by simp; omega))
    have HS := Hd hs
    have HA := Hd ha
    clear hk hs ha
    go_wp2_with fail
    go_roundw
    · exact loopC_next (FL := candL) (c := 6) (G := cnot g) (K := 6) HR.out hg (by have := HLL.out; omega) (fun y r h => andL_ok HY.out h) (fun z r h => andL_err HY.out h) (fun y r h => (Px.cn_len _).1 _ _ _ _ h) HK.out HS.out HA.out HX.out (by have := HK.out.size; omega)
    ·
     rw [((HS.out).keep ((Keeps.refl _ _).alloc _)).rank, HS0.out.rank]
     have := HLL.out
     rcases St.lift_cases n (cnot g) l.tail o k with ⟨a, r', h1, h2⟩ | ⟨z, r', h1, h2⟩
     ·
      rw [h2]
      have := (Px.cn_len _).1 _ _ _ _ h1
      simp only [St.rank]; omega
     ·
      rw [h2]
      simp only [St.rank]; omega
   · cases hy
  ·
   have hn : σ.sees [38, 38] = false := by simpa using hy
   have htk : σ.take [38, 38] = σ := by unfold St.take; rw [if_neg hy]
   rw [htk, hn] at HT
   have HR : Hid (R.2 = σ ∧ ∀ a, R.1 = some a → CnAt wr lo a (.pointer q)) := Hd (by
    rcases hc with ⟨g, x, l, hg, hgl, rfl, hx, hR⟩ | ⟨z, p, rfl, hR⟩
    ·
     match g, hgl with
     | g + 1, _ =>
     rw [hR, andL_none hn]
     exact ⟨rfl, fun a h => by obtain rfl := Option.some.inj h; exact hx⟩
    · rw [hR]; exact ⟨rfl, fun a h => by cases h⟩)
   have HK := Hd hk
   clear hc hs hk hy hn htk
   go_wp2_with fail
   refine (HT.out).mono ?_
   rintro e w2 ⟨rfl, hs, hk⟩
   have HKK := Hd hk
   have HS := Hd hs
   clear hk hs
   go_wp2
   go_ret
   exact ⟨.pointer q, rfl, ⟨_, rfl⟩, HK.out.trans HKK.out (fun _ h _ => h), by rw [HR.out.1]; exact HS.out, fun a h => (HR.out.2 a h).keep HKK.out (by simp; omega)⟩
theorem qand_dead (w : World) (b n z p o lo : Nat) (h : SA w b n (.dead z p o)) (hU : Calls Tryz.prog 184 #[pp b] w (QS CnAt IsPtr lo w b n (none, .dead z p o))) :
 Calls Tryz.prog 153 #[pp b] w (QS CnAt IsPtr lo w b n (none, .dead z p o)) := by
 have HU := Hd hU
 clear h hU
 go_enter Tryz.func153, Tryz.ntmps153
 go_wp2_with fail
 refine (HU.out).mono ?_
 rintro e w1 ⟨v, rfl, ⟨q, rfl⟩, hk, hs, ha⟩
 have HT := Hd (qtake_any w1 b n _ hs [38, 38])
 have HK := Hd hk
 clear hk hs ha
 go_wp2
 go_loop [3] (fun ev => ev = .pointer q) (fun _ => 0)
 case atStart => rfl
 case round =>
  subst hrel
  go_wp2_with fail
  refine (HT.out).mono ?_
  rintro e w2 ⟨rfl, hs, hk⟩
  have HK := zV HK hk
  have HS := Hd hs
  clear hk hs
  go_wp2
  go_ret
  exact ⟨.pointer q, rfl, ⟨_, rfl⟩, HK.out, HS.out, fun _ h => by cases h⟩
theorem condL_none {n g o k : Nat} {x : Cn} {l : List Tok} (h : Px.sees l [124, 124] = false) : (St.live l o k).lift n kI (ccondL (g + 1) x) = (some x, .live l o k) := by
 have hu : Px.condL (g + 1) o x l = .ok x l := by rw [Px.condL]; simp only [h]; rfl
 simp only [St.lift, ccondL, hu, kI]
theorem condL_ok {n g o k : Nat} {x y : Cn} {l r : List Tok} (h : Px.sees l [124, 124] = true) (hu : Px.and g o l.tail = .ok y r) : (St.live l o k).lift n kI (ccondL (g + 1) x) = (St.live r o k).lift n kI (ccondL g (.two 7 x y)) := by
 have hu : Px.condL (g + 1) o x l = Px.condL g o (.two 7 x y) r := by rw [Px.condL]; simp only [h, hu]; rfl
 simp only [St.lift, ccondL, hu]
theorem condL_err {n g o k z : Nat} {x : Cn} {l r : List Tok} (h : Px.sees l [124, 124] = true) (hu : Px.and g o l.tail = .err z r) : (St.live l o k).lift n kI (ccondL (g + 1) x) = (none, .dead z (Px.place n r) o) := by
 have hu : Px.condL (g + 1) o x l = .err z r := by rw [Px.condL]; simp only [h, hu]; rfl
 simp only [St.lift, ccondL, hu]
theorem cond_ok {n f o k : Nat} {x : Cn} {ts r : List Tok} (h : Px.and f o ts = .ok x r) : (St.live ts o k).lift n kI (ccond (f + 1)) = (St.live r o k).lift n kI (ccondL f x) := by
 have hu : Px.cond (f + 1) o ts = Px.condL f o x r := by rw [Px.cond]; simp only [h]
 simp only [St.lift, ccond, ccondL, hu]
theorem cond_err {n f o k z : Nat} {ts r : List Tok} (h : Px.and f o ts = .err z r) : (St.live ts o k).lift n kI (ccond (f + 1)) = (none, .dead z (Px.place n r) o) := by
 have hu : Px.cond (f + 1) o ts = .err z r := by rw [Px.cond]; simp only [h]
 simp only [St.lift, ccond, hu]
theorem qcond_live (f : Nat) (w : World) (b n : Nat) (ts : List Tok) (o k lo : Nat) (h : SA w b n (.live ts o k)) (ho2 : o ≤ 1000) (hf : 4 * ts.length + 7 ≤ f + 1) (hb : b ≤ lo) (hlo : lo < w.heap.size) (hE : ∀ g, g ≤ f → QC g) :
 Calls Tryz.prog 116 #[pp b] w (QS CnAt IsPtr lo w b n ((St.live ts o k).lift n kI (ccond (f + 1)))) := by
 have HU := Hd ((hE f (Nat.le_refl _)).and w b n (.live ts o k) lo h ⟨ho2, by omega⟩ hb hlo)
 have HST := Hd (fun (wr : World) (v : Value) => loopC_start (F := ccondL) (G := cand f) (T := ccond (f + 1)) (f := f) (c := 7) (n := n) (b := b) (lo := lo) (o := o) (k := k) (ts := ts) (w := w) (wr := wr) (v := v) (fun x r h => ⟨cond_ok h, by have := (Px.cn_len _).2.2.1 _ _ _ _ h; omega⟩) (fun z r h => cond_err h))
 obtain ⟨R, hR0⟩ : ∃ R, R = (St.live ts o k).lift n kI (ccond (f + 1)) := ⟨_, rfl⟩
 rw [← hR0] at HST ⊢
 clear h hR0 hf
 go_enter Tryz.func116, Tryz.ntmps116
 go_wp2_with fail
 refine (HU.out).mono ?_
 rintro e w1 ⟨v, rfl, ⟨q, rfl⟩, hk, hs, ha⟩
 have HST := Hd (HST.out w1 _ ⟨q, rfl⟩ hk hs ha)
 clear hk hs ha HU
 go_wp2_with fail
 go_loopw [3] (fun ev wr => LoopC ccondL f 7 n b lo o k R w ev wr) (fun _ wr => qrank wr b)
 case atStart => exact HST.out
 case round =>
  obtain ⟨hv, hk, σ, hs, hc⟩ := hrel
  obtain ⟨q, rfl⟩ := hv
  have HT := Hd (qtake_any wr b n σ hs [124, 124])
  by_cases hy : σ.sees [124, 124] = true
  ·
   rcases hc with ⟨g, x, l, hg, hgl, rfl, hx, hR⟩ | ⟨z, p, rfl, hR⟩
   ·
    have HS0 := Hd hs
    match g, hgl with
    | g + 1, hgl =>
    have htk : (St.live l o k).take [124, 124] = .live l.tail o k := by unfold St.take; rw [if_pos hy]; rfl
    rw [htk, hy] at HT
    have hll := sees_tail2 (by simp) hy
    have HX := Hd hx
    have HK := Hd hk
    have HR := Hd hR
    have HY := Hd (show Px.sees l [124, 124] = true from hy)
    have HLL := Hd hll
    have HU := Hd (fun w' (h' : SA w' b n (.live l.tail o k)) (hlo' : lo < w'.heap.size) => (hE g (by omega)).and w' b n (.live l.tail o k) lo h' ⟨ho2, by omega⟩ hb hlo')
    clear hx hs hk hR hll hy htk
    go_wp2_with fail
    refine (HT.out).mono ?_
    rintro e w2 ⟨rfl, hs, hk⟩
    have HK := zV HK hk
    have HX := Hd (HX.out.keep hk (by simp; omega))
    have HS := Hd hs
    clear hk hs
    go_wp2_with fail
    refine (HU.out _ HS.out (by have := HK.out.size; omega)).mono ?_
    rintro e w9 ⟨v, rfl, ⟨q2, rfl⟩, hk, hs, ha⟩
    have HK := zV HK hk
    have HX := Hd (HX.out.keep hk (by simp; omega))
    have HS := Hd hs
    have HA := Hd ha
    clear hk hs ha
    go_wp2_with fail
    go_roundw
    · exact loopC_next (FL := ccondL) (c := 7) (G := cand g) (K := 7) HR.out hg (by have := HLL.out; omega) (fun y r h => condL_ok HY.out h) (fun z r h => condL_err HY.out h) (fun y r h => (Px.cn_len _).2.2.1 _ _ _ _ h) HK.out HS.out HA.out HX.out (by have := HK.out.size; omega)
    ·
     rw [((HS.out).keep ((Keeps.refl _ _).alloc _)).rank, HS0.out.rank]
     have := HLL.out
     rcases St.lift_cases n (cand g) l.tail o k with ⟨a, r', h1, h2⟩ | ⟨z, r', h1, h2⟩
     ·
      rw [h2]
      have := (Px.cn_len _).2.2.1 _ _ _ _ h1
      simp only [St.rank]; omega
     ·
      rw [h2]
      simp only [St.rank]; omega
   · cases hy
  ·
   have hn : σ.sees [124, 124] = false := by simpa using hy
   have htk : σ.take [124, 124] = σ := by unfold St.take; rw [if_neg hy]
   rw [htk, hn] at HT
   have HR : Hid (R.2 = σ ∧ ∀ a, R.1 = some a → CnAt wr lo a (.pointer q)) := Hd (by
    rcases hc with ⟨g, x, l, hg, hgl, rfl, hx, hR⟩ | ⟨z, p, rfl, hR⟩
    ·
     match g, hgl with
     | g + 1, _ =>
     rw [hR, condL_none hn]
     exact ⟨rfl, fun a h => by obtain rfl := Option.some.inj h; exact hx⟩
    · rw [hR]; exact ⟨rfl, fun a h => by cases h⟩)
   have HK := Hd hk
   clear hc hs hk hy hn htk
   go_wp2_with fail
   refine (HT.out).mono ?_
   rintro e w2 ⟨rfl, hs, hk⟩
   have HKK := Hd hk
   have HS := Hd hs
   clear hk hs
   go_wp2
   go_ret
   exact ⟨.pointer q, rfl, ⟨_, rfl⟩, HK.out.trans HKK.out (fun _ h _ => h), by rw [HR.out.1]; exact HS.out, fun a h => (HR.out.2 a h).keep HKK.out (by simp; omega)⟩
theorem qcond_dead (w : World) (b n z p o lo : Nat) (h : SA w b n (.dead z p o)) (hU : Calls Tryz.prog 153 #[pp b] w (QS CnAt IsPtr lo w b n (none, .dead z p o))) :
 Calls Tryz.prog 116 #[pp b] w (QS CnAt IsPtr lo w b n (none, .dead z p o)) := by
 have HU := Hd hU
 clear h hU
 go_enter Tryz.func116, Tryz.ntmps116
 go_wp2_with fail
 refine (HU.out).mono ?_
 rintro e w1 ⟨v, rfl, ⟨q, rfl⟩, hk, hs, ha⟩
 have HT := Hd (qtake_any w1 b n _ hs [124, 124])
 have HK := Hd hk
 clear hk hs ha
 go_wp2
 go_loop [3] (fun ev => ev = .pointer q) (fun _ => 0)
 case atStart => rfl
 case round =>
  subst hrel
  go_wp2_with fail
  refine (HT.out).mono ?_
  rintro e w2 ⟨rfl, hs, hk⟩
  have HK := zV HK hk
  have HS := Hd hs
  clear hk hs
  go_wp2
  go_ret
  exact ⟨.pointer q, rfl, ⟨_, rfl⟩, HK.out, HS.out, fun _ h => by cases h⟩
theorem qnot_dead (w : World) (b n z p o lo : Nat) (h : SA w b n (.dead z p o)) (ho : o ≤ 1000) (hb : b ≤ lo) (hlo : lo < w.heap.size) : Calls Tryz.prog 184 #[pp b] w (QS CnAt IsPtr lo w b n (none, .dead z p o)) :=
 qnot_cmp 0 w b n (.dead z p o) lo h ho hb hlo rfl rfl (.inl rfl)
theorem qnot_step (f : Nat) (hE : QC f) (w : World) (b n : Nat) (σ : St) (lo : Nat) (h : SA w b n σ) (hf : σ.fits (f + 1) 5) (hb : b ≤ lo) (hlo : lo < w.heap.size) :
 Calls Tryz.prog 184 #[pp b] w (QS CnAt IsPtr lo w b n (σ.lift n kI (cnot (f + 1)))) := by
 cases σ with
 | dead z p o => exact qnot_dead w b n z p o lo h hf hb hlo
 | live ts o k =>
  have hf0 := hf
  obtain ⟨ho2, hl⟩ := hf0
  cases hs : Px.sees ts [33] with
  | true =>
   obtain ⟨t, r, rfl, -⟩ := sees_cons (by simp) hs
   simp only [List.length_cons] at hl
   by_cases ho : 40 ≤ o
   · exact qnot_open f w b n t r o k lo h ho2 (.inl hs) ho
   · exact qnot_neg f w b n t r o k lo h hb hlo hs ho (fun w1 h1 hlo1 => hE.not w1 b n _ lo h1 ⟨by omega, by omega⟩ hb hlo1)
  | false =>
   cases hs2 : Px.sees ts [40] with
   | true =>
    obtain ⟨t, r, rfl, -⟩ := sees_cons (by simp) hs2
    simp only [List.length_cons] at hl
    by_cases ho : 40 ≤ o
    · exact qnot_open f w b n t r o k lo h ho2 (.inr ⟨hs, hs2⟩) ho
    · exact qnot_par f w b n t r o k lo h hb hlo hs hs2 ho (fun w1 h1 hlo1 => hE.cond w1 b n _ lo h1 ⟨by omega, by omega⟩ hb hlo1)
   | false =>
    cases hn : Px.isNull ts with
    | true =>
     rw [null_lift hs hs2 hn]
     obtain ⟨t0, t1, t2, r, rfl, hnm, ht1, ht2⟩ := Px.isNull_form hn
     rcases ht1 with ht1 | ht1
     ·
      have hc : Px.nullCn (t0 :: t1 :: t2 :: r) = .null t0.text := by unfold Px.nullCn; rw [show Px.txt (t0 :: t1 :: t2 :: r) 1 = t1.text from rfl, ht1]; rfl
      rw [hc]
      exact qnot_nullE w b n t0 t1 t2 r o k lo h hb hlo hs hs2 hnm ht2 ht1
     ·
      have hc : Px.nullCn (t0 :: t1 :: t2 :: r) = .not (.null t0.text) := by unfold Px.nullCn; rw [show Px.txt (t0 :: t1 :: t2 :: r) 1 = t1.text from rfl, ht1]; rfl
      rw [hc]
      exact qnot_nullF w b n t0 t1 t2 r o k lo h hb hlo hs hs2 hnm ht2 ht1
    | false =>
     rw [not_cmp_lift (σ := .live ts o k) hs hs2 (fun ts' o' k' h => by injection h with h1; subst h1; exact hn)]
     exact qnot_cmp f w b n (.live ts o k) lo h hf hb hlo hs hs2 (noNull_of hn)
theorem qc : ∀ f, QC f := fun f => by
 induction f using Nat.strongRecOn with
 | _ f ih =>
  match f, ih with
  | 0, _ =>
   have hd : ∀ w b n σ (lo : Nat) c, 0 < c → SA w b n σ → σ.fits 0 c → ∃ z p o, σ = .dead z p o ∧ o ≤ 1000 := fun w b n σ (lo : Nat) c hc h hf => by
    cases σ with
    | live ts o k => have := hf.2; omega
    | dead z p o => exact ⟨z, p, o, rfl, hf⟩
   refine ⟨fun w b n σ lo h hf hb hlo => ?_, fun w b n σ lo h hf hb hlo => ?_, fun w b n σ lo h hf hb hlo => ?_⟩
   ·
    obtain ⟨z, p, o, rfl, ho⟩ := hd w b n σ lo 5 (by omega) h hf
    exact qnot_dead w b n z p o lo h ho hb hlo
   ·
    obtain ⟨z, p, o, rfl, ho⟩ := hd w b n σ lo 6 (by omega) h hf
    exact qand_dead w b n z p o lo h (qnot_dead w b n z p o lo h ho hb hlo)
   ·
    obtain ⟨z, p, o, rfl, ho⟩ := hd w b n σ lo 7 (by omega) h hf
    exact qcond_dead w b n z p o lo h (qand_dead w b n z p o lo h (qnot_dead w b n z p o lo h ho hb hlo))
  | f + 1, ih =>
   have hle : ∀ g, g ≤ f → QC g := fun g hg => ih g (by omega)
   refine ⟨fun w b n σ lo h hf hb hlo => qnot_step f (hle f (Nat.le_refl _)) w b n σ lo h hf hb hlo, fun w b n σ lo h hf hb hlo => ?_, fun w b n σ lo h hf hb hlo => ?_⟩
   ·
    cases σ with
    | live ts o k => exact qand_live f w b n ts o k lo h hf.1 hf.2 hb hlo hle
    | dead z p o => exact qand_dead w b n z p o lo h (qnot_dead w b n z p o lo h hf hb hlo)
   ·
    cases σ with
    | live ts o k => exact qcond_live f w b n ts o k lo h hf.1 hf.2 hb hlo hle
    | dead z p o => exact qcond_dead w b n z p o lo h (qand_dead w b n z p o lo h (qnot_dead w b n z p o lo h hf hb hlo))
end
section
set_option maxHeartbeats 4000000
set_option maxRecDepth 100000
open Go.RowKit Go.Shelf
open Lx (Tok Tx)
open Px (Ex Cn Sm)
def IsSl (v : Value) : Prop := ∃ A m c, v = .slice A m c
def argsM (f o g : Nat) (l : List Ex) (ts : List Tok) : Px.R (List Ex) := (Px.sum f o ts).bind fun e r => Px.argsL f o g (l ++ [e]) r
abbrev aargs (f : Nat) : List Tok → Nat → Nat → Px.R (List Ex) := fun ts o _ => Px.argsL f o f [] ts
abbrev aargsM (f g : Nat) (l : List Ex) : List Tok → Nat → Nat → Px.R (List Ex) := fun ts o _ => argsM f o g l ts
theorem SA.keepHi {w w' : World} {b n : Nat} {σ : St} {S : List Nat} (h : SA w b n σ) (hk : Keeps S w w') (hS : ∀ y ∈ S, b < y) : SA w' b n σ := by
 cases σ with
 | live ts o k =>
  obtain ⟨A, cap, g, all, i, h1, h2, h3, h4, h5, h6, h7, h8⟩ := h
  exact ⟨A, cap, g, all, i, block_keep h1 hk (fun hm => by have := hS _ hm; omega), h2.keep hk (fun hm => by have := hS _ hm; omega), h3, h4, h5, h6, h7, h8⟩
 | dead z p o =>
  obtain ⟨h1, h2, A, L, cap, i, k, h3⟩ := h
  exact ⟨h1, h2, A, L, cap, i, k, block_keep h3 hk (fun hm => by have := hS _ hm; omega)⟩
theorem args_none {n f o k : Nat} {ts : List Tok} (h : Px.sees ts [41] = true) : (St.live ts o k).lift n kI (aargs (f + 1)) = (some [], .live ts.tail o k) := by
 have hu : Px.argsL (f + 1) o (f + 1) [] ts = .ok [] ts.tail := by rw [Px.argsL]; simp only [h]; rfl
 simp only [St.lift, aargs, hu, kI]
theorem args_some {n f o k : Nat} {ts : List Tok} (h : Px.sees ts [41] = false) : (St.live ts o k).lift n kI (aargs (f + 1)) = (St.live ts o k).lift n kI (aargsM (f + 1) f []) := by
 have hu : Px.argsL (f + 1) o (f + 1) [] ts = argsM (f + 1) o f [] ts := by rw [Px.argsL]; simp only [h]; rfl
 simp only [St.lift, aargs, aargsM, hu]
theorem argsM_err {n f g o k z : Nat} {l : List Ex} {ts r : List Tok} (h : Px.sum f o ts = .err z r) : (St.live ts o k).lift n kI (aargsM f g l) = (none, .dead z (Px.place n r) o) := by
 have hu : argsM f o g l ts = .err z r := by unfold argsM; rw [h]; rfl
 simp only [St.lift, aargsM, hu]
theorem argsM_end {n f g o k : Nat} {l : List Ex} {ts r : List Tok} {e : Ex} (h : Px.sum f o ts = .ok e r) (hs : Px.sees r [41] = true) : (St.live ts o k).lift n kI (aargsM f (g + 1) l) = (some (l ++ [e]), .live r.tail o k) := by
 have hu : argsM f o (g + 1) l ts = .ok (l ++ [e]) r.tail := by
  unfold argsM; rw [h]
  show Px.argsL f o (g + 1) (l ++ [e]) r = _
  rw [Px.argsL]; simp only [hs]; rfl
 simp only [St.lift, aargsM, hu, kI]
theorem argsM_next {n f g o k : Nat} {l : List Ex} {ts r : List Tok} {e : Ex} (h : Px.sum f o ts = .ok e r) (hs : Px.sees r [41] = false) (hc : Px.sees r [44] = true) : (St.live ts o k).lift n kI (aargsM f (g + 1) l) = (St.live r.tail o k).lift n kI (aargsM f g (l ++ [e])) := by
 have hu : argsM f o (g + 1) l ts = argsM f o g (l ++ [e]) r.tail := by
  conv => lhs; unfold argsM
  rw [h]
  show Px.argsL f o (g + 1) (l ++ [e]) r = _
  rw [Px.argsL]; simp only [hs]
  rw [if_neg (by simp), if_neg (by simp)]
  unfold Px.want Px.passR
  rw [if_pos hc]; rfl
 simp only [St.lift, aargsM, hu]
theorem argsM_bad {n f g o k : Nat} {l : List Ex} {ts r : List Tok} {e : Ex} (h : Px.sum f o ts = .ok e r) (hs : Px.sees r [41] = false) (hc : Px.sees r [44] = false) : (St.live ts o k).lift n kI (aargsM f (g + 1) l) = (none, .dead 51 (Px.place n r) o) := by
 have hu : argsM f o (g + 1) l ts = .err 51 r := by
  unfold argsM
  rw [h]
  show Px.argsL f o (g + 1) (l ++ [e]) r = _
  rw [Px.argsL]; simp only [hs]
  rw [if_neg (by simp), if_neg (by simp)]
  unfold Px.want Px.passR
  rw [if_neg (by simp [hc])]; rfl
 simp only [St.lift, aargsM, hu]
theorem own_low {w : World} {base base' : Nat} {T : TypeId} {sz n : Nat} {v : Value} {xs : List Value} (h : w.ownsRow base T sz v n xs) (hb : base' ≤ base) : w.ownsRow base' T sz v n xs := by
 refine ⟨h.1, ?_⟩
 rcases h.2 with h2 | ⟨g, cap, cur, hv, hg, rest⟩
 · exact .inl h2
 · exact .inr ⟨g, cap, cur, hv, by omega, rest⟩
def LoopA (f n b lo o k : Nat) (R : Option (List Ex) × St) (w : World) (v : Value) (wr : World) : Prop :=
 IsSl v ∧ Keeps [b] w wr ∧ ∃ σ, SA wr b n σ ∧ ((∃ g l r vs, σ = .live r o k ∧ wr.ownsRow w.heap.size 170 3 v l.length (argCells vs) ∧ ExsAt wr lo l vs ∧ l.length + r.length ≤ 5000 ∧ r.length < g ∧ 4 * r.length + 3 ≤ f ∧ R = σ.lift n kI (aargsM f g l)) ∨ (∃ z p, σ = .dead z p o ∧ R = (none, σ)))
theorem qargs_live (f : Nat) (w : World) (b n : Nat) (ts : List Tok) (o k lo : Nat) (h : SA w b n (.live ts o k)) (ho2 : o ≤ 1000) (hf : 4 * ts.length + 4 ≤ f + 1) (hb : b ≤ lo) (hlo : lo < w.heap.size) :
 Calls Tryz.prog 118 #[pp b] w (QS ArgsAt IsSl lo w b n ((St.live ts o k).lift n kI (aargs (f + 1)))) := by
 have HT := Hd (qtake_any w b n _ h [41])
 have HE := Hd (qe (f + 1))
 have HG := Hd h.good.len
 have HLO := Hd (show b ≤ lo ∧ lo < w.heap.size from ⟨hb, hlo⟩)
 by_cases hy : Px.sees ts [41] = true
 ·
  rw [args_none hy]
  have hse : (St.live ts o k).sees [41] = true := hy
  have htk : (St.live ts o k).take [41] = .live ts.tail o k := by unfold St.take; rw [if_pos hse]; rfl
  rw [hse, htk] at HT
  clear h hy hse htk
  go_enter Tryz.func118, Tryz.ntmps118
  go_wp2_with fail
  refine (HT.out).mono ?_
  rintro e w1 ⟨rfl, hs, hk⟩
  have HS := Hd hs
  have HK := Hd hk
  clear hs hk
  go_wp2
  go_ret
  refine ⟨.slice none 0 0, rfl, ⟨_, _, _, rfl⟩, HK.out, HS.out, fun a h => ?_⟩
  obtain rfl := Option.some.inj h
  exact ⟨[], ⟨rfl, .inl ⟨rfl, rfl⟩⟩, rfl⟩
 ·
  have hn : Px.sees ts [41] = false := by simpa using hy
  have hse : (St.live ts o k).sees [41] = false := hn
  have htk : (St.live ts o k).take [41] = .live ts o k := by unfold St.take; rw [hse]; rfl
  rw [hse, htk] at HT
  obtain ⟨R, hR⟩ : ∃ R, R = (St.live ts o k).lift n kI (aargs (f + 1)) := ⟨_, rfl⟩
  rw [← hR]
  have HR := Hd (hR.trans (args_some hn))
  clear h hy hn hse htk hR
  obtain ⟨iP, hP, hP0, hP1, hP2⟩ := info_parts infoArg
  go_enter Tryz.func118, Tryz.ntmps118
  go_wp2_with fail
  refine (HT.out).mono ?_
  rintro e w1 ⟨rfl, hs, hk⟩
  have HS := Hd hs
  have HK := Hd hk
  clear hs hk
  go_wp2_with fail
  go_loopw [3] (fun ev wr => LoopA (f + 1) n b lo o k R w ev wr) (fun _ wr => qrank wr b)
  case atStart => exact ⟨⟨_, _, _, rfl⟩, HK.out, _, HS.out, .inl ⟨f, [], ts, [], rfl, ⟨rfl, .inl ⟨rfl, rfl⟩⟩, rfl, by have := HG.out; simp; omega, by omega, by omega, HR.out⟩⟩
  case round =>
   obtain ⟨⟨A, m, c, rfl⟩, hk, σ, hs, hc⟩ := hrel
   have c3 := hs.flag
   rcases hc with ⟨g, l, r, vs, rfl, hown, hex, hlr, hrg, hrf, hR⟩ | ⟨z, p, rfl, hR⟩
   ·
    simp only [St.err] at c3
    have hle : l.length ≤ 100000 := by omega
    have hm : m = l.length := by obtain ⟨_, _, h⟩ := row_slice hown; injection h
    subst hm
    have HOWN := Hd hown
    have HEX := Hd hex
    have HS0 := Hd hs
    have HKR := Hd hk
    have HRR := Hd hR
    have HU := Hd (HE.out.sum wr b n (.live r o k) lo hs ⟨ho2, hrf⟩ hb (by have := hk.size; omega))
    match g, hrg with
    | g + 1, hrg =>
    clear hown hex hk hs hR
    go_wp2_with fail
    refine (HU.out).mono ?_
    rintro e w4 ⟨v, rfl, ⟨q2, rfl⟩, hk, hs, ha⟩
    have HK4 := zV HKR hk
    have HOWN4 := Hd (owned_keep HOWN.out hk (fun g hg hm => by have := (rowOf HOWN.out hg).1; simp at hm; omega))
    have HEX4 := Hd (HEX.out.keepT hk (by simp; omega))
    have HS4 := Hd hs
    have HA4 := Hd ha
    have hwsz : w.heap.size ≤ w4.heap.size := HK4.out.size
    clear hk hs ha
    go_wp2_with (at_builtin; refine wp_app rfl _ _ 58 170 rfl iP (.agg #[.bool false, .string .empty, .pointer none]) 3 32 Tryz.underlying58 hP hP0 hP1 hP2 rfl (by decide) (by decide) (.slice A l.length c) l.length w.heap.size (argCells vs) rfl HOWN4.out 1 [.bool false, .string ⟨#[]⟩, .pointer q2] rfl rfl ?qa1 hle hwsz ?_)
    case qa1 => intro u hu; simp at hu; rcases hu with rfl | rfl | rfl <;> rfl
    intro v' w5 hown' hk5 _ hsz5
    have hHi : ∀ y ∈ (Value.slice A l.length c).ownBlock.toList, w.heap.size ≤ y := fun y hy => (rowOf HOWN4.out (by simpa using hy)).1
    have HS5 := Hd (HS4.out.keepHi hk5 (fun y hy => by have := hHi y hy; omega))
    have HK5 := Hd (HK4.out.hi hk5 hHi)
    have hnt : ∀ y ∈ (Value.slice A l.length c).ownBlock.toList, y ≤ lo ∨ NotT w4 y 74 := fun y hy => .inr (by
     obtain ⟨_, cur, hcur⟩ := rowOf HOWN4.out (by simpa using hy)
     exact NotT.of hcur (by decide))
    have HEX5 := Hd (HEX4.out.keepT hk5 hnt)
    have HA5 := Hd (fun a h => (HA4.out a h).keepT hk5 hnt)
    have HOWN5 := Hd hown'
    obtain ⟨A', c', hv'⟩ := row_slice hown'
    subst hv'
    obtain ⟨P, hP⟩ : ∃ P, P = (St.live r o k).lift n kI (esum (f + 1)) := ⟨_, rfl⟩
    rw [← hP] at HS5 HA5
    have HPE := Hd hP
    have HT5 := Hd (qtake_any w5 b n _ HS5.out [41])
    have hlen := fun e' r' (h : Px.sum (f + 1) o r = .ok e' r') => Px.sum_len h
    have HLEN := Hd hlen
    clear hown' hk5 hnt hwsz hHi hP hlen c3
    by_cases hy : P.2.sees [41] = true
    ·
     have htk : P.2.take [41] = P.2.adv := by unfold St.take; rw [if_pos hy]
     rw [hy, htk] at HT5
     have HY := Hd hy
     clear hy htk
     go_wp2_with fail
     refine (HT5.out).mono ?_
     rintro e w6 ⟨rfl, hs, hk⟩
     have HK6 := zV HK5 hk
     have HOWN6 := Hd (owned_keep HOWN5.out hk (fun g hg hm => by have := (rowOf HOWN5.out hg).1; simp at hm; omega))
     have HEX6 := Hd (HEX5.out.keepT hk (by simp; omega))
     have HA6 := Hd (fun a h => (HA5.out a h).keepT hk (by simp; omega))
     have HS6 := Hd hs
     clear hk hs
     go_wp2
     go_ret
     rcases St.lift_cases n (esum (f + 1)) r o k with ⟨a, r', h1, h2⟩ | ⟨z, r', h1, h2⟩
     ·
      have hy := HY.out
      have h6 := HS6.out
      have h7 := HA6.out
      rw [HPE.out, h2] at hy h6 h7
      have hRR := HRR.out.trans (argsM_end (g := g) h1 hy)
      rw [hRR]
      refine ⟨.slice A' (l.length + 1) c', rfl, ⟨_, _, _, rfl⟩, HK6.out, h6, fun x h => ?_⟩
      obtain rfl := Option.some.inj h
      have hex := HEX6.out.snoc (h7 a rfl)
      refine ⟨_, ?_, hex⟩
      rw [argCells_snoc, List.length_append]
      exact own_low HOWN6.out (by omega)
     ·
      have hy := HY.out
      rw [HPE.out, h2] at hy
      cases hy
    ·
     have hn : P.2.sees [41] = false := by simpa using hy
     have htk : P.2.take [41] = P.2 := by unfold St.take; rw [hn]; rfl
     rw [hn, htk] at HT5
     have HN := Hd hn
     clear hy hn htk
     go_wp2_with fail
     refine (HT5.out).mono ?_
     rintro e w6 ⟨rfl, hs, hk⟩
     have HK6 := zV HK5 hk
     have HOWN6 := Hd (owned_keep HOWN5.out hk (fun g hg hm => by have := (rowOf HOWN5.out hg).1; simp at hm; omega))
     have HEX6 := Hd (HEX5.out.keepT hk (by simp; omega))
     have HA6 := Hd (fun a h => (HA5.out a h).keepT hk (by simp; omega))
     have HW6 := Hd (qwant_any w6 b n _ hs [44])
     clear hk hs
     go_wp2_with fail
     refine (HW6.out).mono ?_
     rintro e w7 ⟨rfl, hs, hk⟩
     have HK7 := zV HK6 hk
     have HOWN7 := Hd (owned_keep HOWN6.out hk (fun g hg hm => by have := (rowOf HOWN6.out hg).1; simp at hm; omega))
     have HEX7 := Hd (HEX6.out.keepT hk (by simp; omega))
     have HA7 := Hd (fun a h => (HA6.out a h).keepT hk (by simp; omega))
     have HS7 := Hd hs
     clear hk hs
     go_wp2
     go_roundw
     ·
      refine ⟨⟨_, _, _, rfl⟩, HK7.out, _, HS7.out, ?_⟩
      have hn := HN.out
      have h7 := HA7.out
      rcases St.lift_cases n (esum (f + 1)) r o k with ⟨a, r', h1, h2⟩ | ⟨z, r', h1, h2⟩
      ·
       rw [HPE.out, h2] at hn h7 ⊢
       have hll := HLEN.out a r' h1
       by_cases hc : Px.sees r' [44] = true
       ·
        have hw : (St.live r' o k).want n [44] = .live r'.tail o k := by unfold St.want; rw [if_pos (show (St.live r' o k).sees [44] = true from hc)]; rfl
        show (∃ g l r vs, (St.live r' o k).want n [44] = _ ∧ _) ∨ _
        rw [hw]
        have ht := sees_tail hc
        refine .inl ⟨g, l ++ [a], r'.tail, vs ++ [.pointer q2], rfl, ?_, HEX7.out.snoc (h7 a rfl), by simp at ht ⊢; omega, by omega, by omega, HRR.out.trans (argsM_next h1 hn hc)⟩
        rw [argCells_snoc, List.length_append]
        exact HOWN7.out
       ·
        have hc : Px.sees r' [44] = false := by simpa using hc
        have hw : (St.live r' o k).want n [44] = .dead 51 (Px.place n r') o := by unfold St.want; rw [show (St.live r' o k).sees [44] = false from hc]; rfl
        show (∃ g l r vs, (St.live r' o k).want n [44] = _ ∧ _) ∨ _
        rw [hw]
        exact .inr ⟨51, _, rfl, HRR.out.trans (argsM_bad h1 hn hc)⟩
      ·
       rw [HPE.out, h2]
       exact .inr ⟨z, _, rfl, HRR.out.trans (argsM_err h1)⟩
     ·
      rw [HS7.out.rank, HS0.out.rank, HPE.out]
      rcases St.lift_cases n (esum (f + 1)) r o k with ⟨a, r', h1, h2⟩ | ⟨z, r', h1, h2⟩
      ·
       rw [h2]
       have hll := HLEN.out a r' h1
       simp only [St.want]
       split
       · simp only [St.adv, St.rank, List.length_tail]; omega
       · simp only [St.fail, St.rank]; omega
      ·
       rw [h2]
       show 0 < 1 + _
       omega
   ·
    have c3' : wr.cell? ⟨b, 3, none⟩ = some (.int .i64 (z : Int)) := c3
    have hz : ((z : Int) == 0) = false := by have := hs.1; simp; omega
    have hz' : decide ((z : Int) = 0) = false := by have := hs.1; simp; omega
    have HS1 := Hd hs
    have HK1 := Hd hk
    have HR1 := Hd hR
    clear c3 hs hk hR
    go_wp2
    go_ret
    exact ⟨.slice none 0 0, rfl, ⟨_, _, _, rfl⟩, HK1.out, by rw [HR1.out]; exact HS1.out, fun a h => by rw [HR1.out] at h; cases h⟩
theorem qargs_dead (w : World) (b n z p o lo : Nat) (h : SA w b n (.dead z p o)) :
 Calls Tryz.prog 118 #[pp b] w (QS ArgsAt IsSl lo w b n (none, .dead z p o)) := by
 have HT := Hd (qtake_any w b n _ h [41])
 have hz : ((z : Int) == 0) = false := by have := h.1; simp; omega
 have hz' : decide ((z : Int) = 0) = false := by have := h.1; simp; omega
 clear h
 go_enter Tryz.func118, Tryz.ntmps118
 go_wp2_with fail
 refine (HT.out).mono ?_
 rintro e w1 ⟨rfl, hs, hk⟩
 have c3 : w1.cell? ⟨b, 3, none⟩ = some (.int .i64 (z : Int)) := hs.flag
 have HS := Hd hs
 have HK := Hd hk
 clear hs hk
 go_wp2
 go_loop [3] (fun ev => ev = .slice none 0 0) (fun _ => 0)
 case atStart => rfl
 case round =>
  subst hrel
  go_wp2
  go_ret
  exact ⟨.slice none 0 0, rfl, ⟨_, _, _, rfl⟩, HK.out, HS.out, fun _ h => by cases h⟩
theorem qargs_any (f : Nat) (w : World) (b n : Nat) (σ : St) (lo : Nat) (h : SA w b n σ) (hf : σ.fits (f + 1) 4) (hb : b ≤ lo) (hlo : lo < w.heap.size) :
 Calls Tryz.prog 118 #[pp b] w (QS ArgsAt IsSl lo w b n (σ.lift n kI (aargs (f + 1)))) := by
 cases σ with
 | dead z p o => exact qargs_dead w b n z p o lo h
 | live ts o k => exact qargs_live f w b n ts o k lo h hf.1 hf.2 hb hlo
end
section
open Go.RowKit Go.Shelf
open Lx (Tok Tx)
open Px (Ex Cn Sm)
theorem zS {w w' : World} {b n : Nat} {σ : St} (h : Hid (SA w b n σ)) (hk : Keeps [] w w') : Hid (SA w' b n σ) := Lib.hid (h.out.keep hk)
theorem zI {w w' : World} {b n : Nat} {σ : St} {S : List Nat} (h : Hid (SA w b n σ)) (hk : Keeps S w w') (hS : ∀ y ∈ S, b < y := by have := HX.out; simp <;> omega) : Hid (SA w' b n σ) := Lib.hid (h.out.keepHi hk hS)
theorem cK {P : Program} {f : FuncId} {args : Array Value} {e : Ending} {w w0 : World} {b n X X0 : Nat} {o o0 : Obj} {σ : St} {R : Ending → World → Prop} {S : List Nat} (h : Calls P f args w (fun x y => x = e ∧ Keeps [] w y)) (HK : Hid (Keeps S w0 w)) (HB : Hid (w.heap[X]? = some o)) (HB0 : Hid (w.heap[X0]? = some o0)) (HS : Hid (SA w b n σ)) (k : ∀ y, Hid (Keeps S w0 y) → Hid (y.heap[X]? = some o) → Hid (y.heap[X0]? = some o0) → Hid (SA y b n σ) → Keeps [] w y → R e y) : Calls P f args w R := h.mono (fun _ y q => by
 obtain ⟨rfl, hk⟩ := q
 exact k y (Lib.hid (HK.out.trans hk (fun _ h _ => by cases h))) (Lib.hid (block_keep HB.out hk (by simp))) (Lib.hid (block_keep HB0.out hk (by simp))) (Lib.hid (HS.out.keep hk)) hk)
theorem cT {P : Program} {f : FuncId} {args : Array Value} {e : Ending} {w w0 : World} {b n X X0 : Nat} {o o0 : Obj} {σ : St} {R : Ending → World → Prop} {S : List Nat} (h : Calls P f args w (fun x y => x = e ∧ Keeps [] w y)) (HK : Hid (Keeps S w0 w)) (HB : Hid (w.heap[X]? = some o)) (HB0 : Hid (w.heap[X0]? = some o0)) (HS : Hid (SA w b n σ)) (k : ∀ y, Hid (Keeps S w0 y) → Hid (y.heap[X]? = some o) → Hid (y.heap[X0]? = some o0) → Hid (SA y b n σ) → R e y) : Calls P f args w R := cK h HK HB HB0 HS (fun y a b c d _ => k y a b c d)
theorem cU {P : Program} {f : FuncId} {args : Array Value} {e : Ending} {w w0 : World} {b n X X0 : Nat} {o o0 : Obj} {σ : St} {R : Ending → World → Prop} {S T : List Nat} (h : Calls P f args w (fun x y => x = e ∧ SA y b n σ ∧ Keeps T w y)) (HK : Hid (Keeps S w0 w)) (HB : Hid (w.heap[X]? = some o)) (HB0 : Hid (w.heap[X0]? = some o0)) (k : ∀ y, Hid (Keeps S w0 y) → Hid (y.heap[X]? = some o) → Hid (y.heap[X0]? = some o0) → Hid (SA y b n σ) → R e y) (h1 : ∀ i, i ∈ T → i < w0.heap.size → i ∈ S := by exact fun _ h _ => by first | exact h | cases h) (h2 : X ∉ T := by have := HX.out; simp <;> omega) (h3 : X0 ∉ T := by have := HX.out; simp <;> omega) : Calls P f args w R := h.mono (fun _ y q => by
 obtain ⟨rfl, hs, hk⟩ := q
 exact k y (Lib.hid (HK.out.trans hk h1)) (Lib.hid (block_keep HB.out hk h2)) (Lib.hid (block_keep HB0.out hk h3)) (Lib.hid hs))
theorem cV {P : Program} {f : FuncId} {args : Array Value} {e : Ending} {w w0 : World} {b n X X0 : Nat} {o o0 : Obj} {σ : St} {R : Ending → World → Prop} {S T : List Nat} (h : Calls P f args w (fun x y => x = e ∧ SA y b n σ ∧ Keeps T w y)) (HK : Hid (Keeps S w0 w)) (HB : Hid (w.heap[X]? = some o)) (HB0 : Hid (w.heap[X0]? = some o0)) (k : ∀ y, Hid (Keeps S w0 y) → Hid (y.heap[X]? = some o) → Hid (y.heap[X0]? = some o0) → Hid (SA y b n σ) → R e y) (h1 : ∀ y ∈ T, w0.heap.size ≤ y := by have := HX.out; simp <;> omega) (h2 : X ∉ T := by have := HX.out; simp <;> omega) (h3 : X0 ∉ T := by have := HX.out; simp <;> omega) : Calls P f args w R := cU h HK HB HB0 k (fun i hi hl => by have := h1 i hi; omega) h2 h3
theorem cW {P : Program} {f : FuncId} {args : Array Value} {e : Ending} {w w0 : World} {b n X : Nat} {o : Obj} {σ : St} {R : Ending → World → Prop} {S T : List Nat} (h : Calls P f args w (fun x y => x = e ∧ SA y b n σ ∧ Keeps T w y)) (HK : Hid (Keeps S w0 w)) (HB : Hid (w.heap[X]? = some o)) (k : ∀ y, Hid (Keeps S w0 y) → Hid (y.heap[X]? = some o) → Hid (SA y b n σ) → R e y) (h1 : ∀ i, i ∈ T → i < w0.heap.size → i ∈ S := by exact fun _ h _ => by simp at h; simp [h]) (h2 : X ∉ T := by have := HX.out; simp <;> omega) : Calls P f args w R := h.mono (fun _ y q => by
 obtain ⟨rfl, hs, hk⟩ := q
 exact k y (Lib.hid (HK.out.trans hk h1)) (Lib.hid (block_keep HB.out hk h2)) (Lib.hid hs))
end
end Go.Proofs.YtbikifibfaaggaaGreatDoor
