import Derived.Test.YtbikifibfaaggaaGreatDoorVMQ
import Derived.StillTailTactics
namespace Go.Proofs.YtbikifibfaaggaaGreatDoor
section
set_option maxHeartbeats 2000000
set_option maxRecDepth 100000
open Go.RowKit Go.Shelf
open Lx (Tok Tx)
open Px (Ex Cn)
namespace St
def lift {α : Type} (n : Nat) (kk : α → Nat → Nat) (g : List Tok → Nat → Nat → Px.R α) : St → Option α × St
 | .live ts o k => match g ts o k with | .ok a r => (some a, .live r o (kk a k)) | .err z r => (none, .dead z (Px.place n r) o)
 | .dead z p o => (none, .dead z p o)
def depth : St → Nat | .live _ o _ => o | .dead _ _ o => o
def depthTo (o : Nat) : St → St | .live ts _ k => .live ts o k | .dead z p _ => .dead z p o
def fits (f c : Nat) : St → Prop | .live ts o _ => o ≤ 1000 ∧ 4 * ts.length + c ≤ f | .dead _ _ o => o ≤ 1000
def gate {α : Type} (σ : St) (x : Option α) : Option α := if σ.ok then x else none
theorem lift_depth {α : Type} (n : Nat) (kk : α → Nat → Nat) (g : List Tok → Nat → Nat → Px.R α) (σ : St) : (σ.lift n kk g).2.depth = σ.depth := by
 cases σ with
 | live ts o k => simp only [lift, depth]; cases g ts o k <;> rfl
 | dead z p o => rfl
theorem want_depth (n : Nat) (s : Tx) (σ : St) : (σ.want n s).depth = σ.depth := by
 unfold want
 split
 · cases σ <;> rfl
 · cases σ <;> rfl
end St
abbrev eun (f : Nat) : List Tok → Nat → Nat → Px.R Ex := fun ts o _ => Px.un f o ts
abbrev eprod (f : Nat) : List Tok → Nat → Nat → Px.R Ex := fun ts o _ => Px.prod f o ts
abbrev esum (f : Nat) : List Tok → Nat → Nat → Px.R Ex := fun ts o _ => Px.sum f o ts
def kI {α : Type} : α → Nat → Nat := fun _ k => k
def IsPtr (v : Value) : Prop := ∃ q, v = .pointer q
def QS {α : Type} (At : World → Nat → α → Value → Prop) (Sh : Value → Prop) (lo : Nat) (w : World) (b n : Nat) (p : Option α × St) (e : Ending) (w' : World) : Prop :=
 ∃ v, e = .returned v ∧ Sh v ∧ Keeps [b] w w' ∧ SA w' b n p.2 ∧ ∀ a, p.1 = some a → At w' lo a v
theorem SA.deep {w : World} {b n : Nat} {σ : St} (h : SA w b n σ) : w.cell? ⟨b, 5, none⟩ = some (.int .i64 (σ.depth : Int)) ∧ w.frozen? ⟨b, 5, none⟩ = false ∧ ∀ o : Nat, SA (w.setCell ⟨b, 5, none⟩ (.int .i64 (o : Int))) b n (σ.depthTo o) := by
 cases σ with
 | live ts o k =>
  obtain ⟨cs, hrow, -, -, -, c5, -, hfz⟩ := h.row
  exact ⟨c5, hfz 5, fun o' => h.setO o'⟩
 | dead z p o =>
  obtain ⟨hz, hz2, A, L, cap, i, k, h⟩ := h
  have c5 := row_cell h 5
  exact ⟨by simpa [St.depth] using c5, row_free h 5, fun o' => ⟨hz, hz2, _, _, _, _, _, row_set h 5 _⟩⟩
theorem ExAt.low {w : World} {lo hi : Nat} (h : lo ≤ hi) : ∀ {e : Ex} {v : Value}, ExAt w hi e v → ExAt w lo e v
 | .num m, v, ⟨x, h1, h2, h3⟩ => ⟨x, h1, by omega, h3⟩
 | .var s, v, ⟨x, h1, h2, h3⟩ => ⟨x, h1, by omega, h3⟩
 | .neg a, v, ⟨x, va, h1, h2, h3, h4⟩ => ⟨x, va, h1, by omega, h3, h4.low h⟩
 | .bin k a c, v, ⟨x, va, vc, h1, h2, h3, h4, h5⟩ => ⟨x, va, vc, h1, by omega, h3, h4.low h, h5.low h⟩
theorem new_set (w : World) (p : Addr) (v : Value) (cs : Array Value) (T : TypeId) : ((w.setCell p v).alloc (.cells cs T)).heap[w.heap.size]? = some (.cells cs T (0, 0)) := by
 have h := heap_alloc_new (w.setCell p v) (.cells cs T)
 rwa [show (w.setCell p v).heap.size = w.heap.size by simp [World.setCell]] at h
theorem un_neg_lift {n f : Nat} {ts : List Tok} {o k : Nat} (h : Px.sees ts [45] = true) (ho : ¬ 40 ≤ o) :
 (St.live ts o k).lift n kI (eun (f + 1)) = ((((St.live ts.tail (o + 1) k).lift n kI (eun f)).1.map Ex.neg), ((St.live ts.tail (o + 1) k).lift n kI (eun f)).2.depthTo o) := by
 have hu : Px.un (f + 1) o ts = (Px.un f (o + 1) ts.tail).bind fun a r => .ok (.neg a) r := by
  rw [Px.un]; simp only [h, if_true, if_neg ho]
  cases Px.un f (o + 1) ts.tail <;> rfl
 simp only [St.lift, eun, hu]
 cases Px.un f (o + 1) ts.tail <;> rfl
theorem un_par_lift {n f : Nat} {ts : List Tok} {o k : Nat} (h0 : Px.sees ts [45] = false) (h : Px.sees ts [40] = true) (ho : ¬ 40 ≤ o) :
 (St.live ts o k).lift n kI (eun (f + 1)) = ((((St.live ts.tail (o + 1) k).lift n kI (esum f)).2.want n [41]).gate ((St.live ts.tail (o + 1) k).lift n kI (esum f)).1, (((St.live ts.tail (o + 1) k).lift n kI (esum f)).2.want n [41]).depthTo o) := by
 have hu : Px.un (f + 1) o ts = (Px.sum f (o + 1) ts.tail).bind fun a r => if Px.sees r [41] then .ok a r.tail else .err 51 r := by
  rw [Px.un]; simp only [h0, h, if_true, if_neg ho]
  cases Px.sum f (o + 1) ts.tail <;> rfl
 simp only [St.lift, eun, esum, hu]
 cases hs : Px.sum f (o + 1) ts.tail with
 | err z r => simp [St.want, St.sees, St.gate, St.fail, St.ok, St.depthTo, Px.R.bind]
 | ok a r =>
  by_cases hc : Px.sees r [41] = true
  · simp [St.want, St.sees, St.gate, St.ok, St.depthTo, St.adv, hc, kI, Px.R.bind]
  · simp [St.want, St.sees, St.gate, St.ok, St.depthTo, St.fail, hc, Px.R.bind]
theorem un_open_lift {n f : Nat} {ts : List Tok} {o k : Nat} (h : Px.sees ts [45] = true ∨ (Px.sees ts [45] = false ∧ Px.sees ts [40] = true)) (ho : 40 ≤ o) :
 (St.live ts o k).lift n kI (eun (f + 1)) = (none, .dead 52 (Px.place n ts) o) := by
 have hu : Px.un (f + 1) o ts = .err 52 ts := by
  rw [Px.un]
  rcases h with h | ⟨h0, h⟩
  · simp only [h, if_true, if_pos ho]
  · simp only [h0, h, if_true, if_pos ho]; rfl
 simp only [St.lift, eun, hu]
theorem un_num_lift {n f : Nat} {ts : List Tok} {o k : Nat} (h0 : Px.sees ts [45] = false) (h1 : Px.sees ts [40] = false) (h : Px.isNum ts = true) :
 (St.live ts o k).lift n kI (eun (f + 1)) = (some (.num (Lx.val (Px.txt ts 0))), .live ts.tail o k) := by
 have hu : Px.un (f + 1) o ts = .ok (.num (Lx.val (Px.txt ts 0))) ts.tail := by
  rw [Px.un]; simp only [h0, h1, h, if_true]; rfl
 simp only [St.lift, eun, hu, kI]
theorem un_var_lift {n f : Nat} {ts : List Tok} {o k : Nat} (h0 : Px.sees ts [45] = false) (h1 : Px.sees ts [40] = false) (h2 : Px.isNum ts = false) (h : Px.isName ts = true) :
 (St.live ts o k).lift n kI (eun (f + 1)) = (some (.var (Px.txt ts 0)), .live ts.tail o k) := by
 have hu : Px.un (f + 1) o ts = .ok (.var (Px.txt ts 0)) ts.tail := by
  rw [Px.un]; simp only [h0, h1, h2, h, if_true]; rfl
 simp only [St.lift, eun, hu, kI]
theorem un_none_lift {n f : Nat} {ts : List Tok} {o k : Nat} (h0 : Px.sees ts [45] = false) (h1 : Px.sees ts [40] = false) (h2 : Px.isNum ts = false) (h : Px.isName ts = false) :
 (St.live ts o k).lift n kI (eun (f + 1)) = (none, .dead 51 (Px.place n ts) o) := by
 have hu : Px.un (f + 1) o ts = .err 51 ts := by
  rw [Px.un]; simp only [h0, h1, h2, h]; rfl
 simp only [St.lift, eun, hu]
structure QE (f : Nat) : Prop where
 un : ∀ w b n σ lo, SA w b n σ → σ.fits f 1 → b ≤ lo → lo < w.heap.size → Calls Tryz.prog 183 #[pp b] w (QS ExAt IsPtr lo w b n (σ.lift n kI (eun f)))
 prod : ∀ w b n σ lo, SA w b n σ → σ.fits f 2 → b ≤ lo → lo < w.heap.size → Calls Tryz.prog 152 #[pp b] w (QS ExAt IsPtr lo w b n (σ.lift n kI (eprod f)))
 sum : ∀ w b n σ lo, SA w b n σ → σ.fits f 3 → b ≤ lo → lo < w.heap.size → Calls Tryz.prog 115 #[pp b] w (QS ExAt IsPtr lo w b n (σ.lift n kI (esum f)))
theorem qun_dead (w : World) (b n z p o lo : Nat) (h : SA w b n (.dead z p o)) (r : Option Ex × St) (hr : r = (none, .dead z p o)) :
 Calls Tryz.prog 183 #[pp b] w (QS ExAt IsPtr lo w b n r) := by
 subst hr
 have c3 := h.flag
 have hz : ((z : Int) != 0) = true := by have := h.1; simp; omega
 have hz' : decide ((z : Int) = 0) = false := by have := h.1; simp; omega
 have HF := Hd (fun w' (h : SA w' b n (.dead z p o)) => qfail_any w' b n _ h 51 (by omega) (by omega))
 simp only [St.err] at c3
 have H := Hd h
 clear h
 go_enter Tryz.func183, Tryz.ntmps183
 go_wp2
 go_region
 go_wp2_with fail
 refine (HF.out _ (H.out.drewN _)).mono ?_
 rintro e w1 ⟨rfl, h1, hk⟩
 have H1 := Hd h1
 have HK := Hd hk
 clear h1 hk
 go_wp2
 go_ret
 exact ⟨_, rfl, ⟨_, rfl⟩, ((Keeps.refl _ _).drewN _).trans HK.out (fun _ h _ => h), H1.out, fun _ h => by cases h⟩
theorem qun_nil (w : World) (b n o k lo : Nat) (h : SA w b n (.live [] o k)) (r : Option Ex × St) (hr : r = (none, .dead 51 n o)) :
 Calls Tryz.prog 183 #[pp b] w (QS ExAt IsPtr lo w b n r) := by
 subst hr
 have c3 := h.flag
 simp only [St.err] at c3
 obtain ⟨A, L, cap, c0, c1⟩ := h.empty
 have hge : decide ((L : Int) ≤ (L : Int)) = true := by simp
 have HF := Hd (fun w' (h : SA w' b n (.live [] o k)) => qfail_any w' b n _ h 51 (by omega) (by omega))
 have H := Hd h
 clear h
 go_enter Tryz.func183, Tryz.ntmps183
 go_wp2
 go_region
 go_wp2_with fail
 refine (HF.out _ (H.out.drewN _)).mono ?_
 rintro e w1 ⟨rfl, h1, hk⟩
 have H1 := Hd h1
 have HK := Hd hk
 clear h1 hk
 go_wp2
 go_ret
 exact ⟨_, rfl, ⟨_, rfl⟩, ((Keeps.refl _ _).drewN _).trans HK.out (fun _ h _ => h), H1.out, fun _ h => by cases h⟩
theorem qun_neg (f : Nat) (w : World) (b n : Nat) (t : Tok) (r : List Tok) (o k lo : Nat) (h : SA w b n (.live (t :: r) o k)) (hb : b ≤ lo) (hlo : lo < w.heap.size) (hy : Px.sees (t :: r) [45] = true) (ho : ¬ 40 ≤ o)
 (hF : ∀ w1, SA w1 b n (.live r (o + 1) k) → lo < w1.heap.size → Calls Tryz.prog 183 #[pp b] w1 (QS ExAt IsPtr lo w1 b n ((St.live r (o + 1) k).lift n kI (eun f)))) :
 Calls Tryz.prog 183 #[pp b] w (QS ExAt IsPtr lo w b n ((St.live (t :: r) o k).lift n kI (eun (f + 1)))) := by
 have HR := Hd (un_neg_lift (n := n) (f := f) (k := k) hy ho)
 have hdp := St.lift_depth n kI (eun f) (St.live r (o + 1) k)
 have c3 := h.flag
 simp only [St.err] at c3
 obtain ⟨g, off, L, cap, i, c0, c1, hi, hL, hcap, -, -, -, -, -⟩ := h.head
 have hlt : decide ((L : Int) ≤ (i : Int)) = false := by simp; omega
 have hlt' : decide (L ≤ i) = false := by simp; omega
 have HI := Hd (fun w' (h : SA w' b n (.live (t :: r) o k)) => qis_any w' b n _ h [45])
 have hse : (St.live (t :: r) o k).sees [45] = true := hy
 rw [hse] at HI
 have HO := Hd (fun w' (h : SA w' b n (.live (t :: r) o k)) => qopen_any w' b n _ h (fun ts o' k' e => by injection e; omega))
 have hop : (St.live (t :: r) o k).open n = (true, .live (t :: r) (o + 1) k) := by simp [St.open, ho]
 rw [hop] at HO
 obtain ⟨P, hP⟩ : ∃ P, P = (St.live r (o + 1) k).lift n kI (eun f) := ⟨_, rfl⟩
 rw [List.tail_cons, ← hP] at HR
 rw [← hP] at hF hdp
 have H := Hd h
 have HFF := Hd hF
 have HDP := Hd (show P.2.depth = o + 1 from hdp)
 rw [HR.out]
 clear h hF hy hse hP hdp hop
 go_enter Tryz.func183, Tryz.ntmps183
 go_wp2
 go_region
 go_wp2_with fail
 refine (HI.out _ (H.out.drewN _)).mono ?_
 rintro e w1 ⟨rfl, hk⟩
 have HK := Hd (((Keeps.refl _ _).drewN _).trans hk (fun _ h _ => h))
 have H1 := Hd (H.out.keep HK.out)
 clear hk
 go_wp2_with fail
 refine (HO.out _ H1.out).mono ?_
 rintro e w2 ⟨rfl, h2, hk⟩
 obtain ⟨g', off', L', cap', i', c0', c1', hi', hL', e0, d1, e1, f1, hq⟩ := h2.prev
 have HK := Hd ((HK.out.mono (T := [b]) (by simp)).trans hk (fun _ h _ => h))
 have HQ := Hd hq
 clear h2 hk hq e0 d1 e1 c0' c0 c1 hlt hlt' c3
 go_wp2_with fail
 refine (HFF.out _ HQ.out (by have := HK.out.size; simp; omega)).mono ?_
 rintro e w3 ⟨v, rfl, ⟨q, rfl⟩, hk, hs, ha⟩
 have HK := Hd ((HK.out.set1 1 _).trans hk (fun _ h _ => h))
 have HS := Hd hs
 have HA := Hd ha
 obtain ⟨c5, f5, hset⟩ := hs.deep
 have HSET := Hd hset
 rw [HDP.out] at c5
 clear hk hs ha hset c1'
 go_wp2
 go_ret
 refine ⟨.pointer (some ⟨w3.heap.size, 0, none⟩), rfl, ⟨_, rfl⟩, (HK.out.set1 5 _).alloc _, (HSET.out o).keep ((Keeps.refl _ _).alloc _), fun a h => ?_⟩
 obtain ⟨a0, h0, rfl⟩ := Option.map_eq_some_iff.1 h
 exact ⟨_, _, rfl, by have := HK.out.size; omega, new_set _ _ _ _ _, ((HA.out a0 h0).keep (S := [b]) ((Keeps.refl _ _).set1 5 _) (by simp; omega)).alloc _⟩
theorem qun_open (f : Nat) (w : World) (b n : Nat) (t : Tok) (r : List Tok) (o k lo : Nat) (h : SA w b n (.live (t :: r) o k)) (ho2 : o ≤ 1000) (hy : Px.sees (t :: r) [45] = true ∨ (Px.sees (t :: r) [45] = false ∧ Px.sees (t :: r) [40] = true)) (ho : 40 ≤ o) :
 Calls Tryz.prog 183 #[pp b] w (QS ExAt IsPtr lo w b n ((St.live (t :: r) o k).lift n kI (eun (f + 1)))) := by
 have HR := Hd (un_open_lift (n := n) (f := f) (k := k) hy ho)
 have c3 := h.flag
 simp only [St.err] at c3
 obtain ⟨g, off, L, cap, i, c0, c1, hi, hL, hcap, -, -, -, -, -⟩ := h.head
 have hlt : decide ((L : Int) ≤ (i : Int)) = false := by simp; omega
 have hlt' : decide (L ≤ i) = false := by simp; omega
 have HI := Hd (fun w' (h : SA w' b n (.live (t :: r) o k)) => qis_any w' b n _ h [45])
 have HI2 := Hd (fun w' (h : SA w' b n (.live (t :: r) o k)) => qis_any w' b n _ h [40])
 have HO := Hd (fun w' (h : SA w' b n (.live (t :: r) o k)) => qopen_any w' b n _ h (fun ts o' k' e => by injection e; omega))
 have hop : (St.live (t :: r) o k).open n = (false, .dead 52 (Px.place n (t :: r)) o) := by simp [St.open, ho]
 rw [hop] at HO
 rw [HR.out]
 have H := Hd h
 rcases hy with hy | ⟨hy, hy2⟩
 ·
  have hse : (St.live (t :: r) o k).sees [45] = true := hy
  rw [hse] at HI
  clear h hy hse hop HI2
  go_enter Tryz.func183, Tryz.ntmps183
  go_wp2
  go_region
  go_wp2_with fail
  refine (HI.out _ (H.out.drewN _)).mono ?_
  rintro e w1 ⟨rfl, hk⟩
  have HK := Hd (((Keeps.refl _ _).drewN _).trans hk (fun _ h _ => h))
  have H1 := Hd (H.out.keep HK.out)
  clear hk
  go_wp2_with fail
  refine (HO.out _ H1.out).mono ?_
  rintro e w2 ⟨rfl, h2, hk⟩
  have HK := Hd ((HK.out.mono (T := [b]) (by simp)).trans hk (fun _ h _ => h))
  have H2 := Hd h2
  clear hk h2
  go_wp2
  go_ret
  exact ⟨.pointer none, rfl, ⟨_, rfl⟩, HK.out, H2.out, fun _ h => by cases h⟩
 ·
  have hse : (St.live (t :: r) o k).sees [45] = false := hy
  rw [hse] at HI
  have hse2 : (St.live (t :: r) o k).sees [40] = true := hy2
  rw [hse2] at HI2
  clear h hy hy2 hse hse2 hop
  go_enter Tryz.func183, Tryz.ntmps183
  go_wp2
  go_region
  go_wp2_with fail
  refine (HI.out _ (H.out.drewN _)).mono ?_
  rintro e w1 ⟨rfl, hk⟩
  have HK := Hd (((Keeps.refl _ _).drewN _).trans hk (fun _ h _ => h))
  have H1 := Hd (H.out.keep HK.out)
  clear hk
  go_wp2_with fail
  refine (HI2.out _ H1.out).mono ?_
  rintro e w1b ⟨rfl, hk⟩
  have HK := zV HK hk
  have H1 := Hd (H1.out.keep hk)
  clear hk
  go_wp2_with fail
  refine (HO.out _ H1.out).mono ?_
  rintro e w2 ⟨rfl, h2, hk⟩
  have HK := Hd ((HK.out.mono (T := [b]) (by simp)).trans hk (fun _ h _ => h))
  have H2 := Hd h2
  clear hk h2
  go_wp2
  go_ret
  exact ⟨.pointer none, rfl, ⟨_, rfl⟩, HK.out, H2.out, fun _ h => by cases h⟩
theorem gate_some {α : Type} {σ : St} {x : Option α} {a : α} (h : σ.gate x = some a) : x = some a := by
 unfold St.gate at h
 split at h
 · exact h
 · cases h
theorem qun_par (f : Nat) (w : World) (b n : Nat) (t : Tok) (r : List Tok) (o k lo : Nat) (h : SA w b n (.live (t :: r) o k)) (hb : b ≤ lo) (hlo : lo < w.heap.size) (hn : Px.sees (t :: r) [45] = false) (hy : Px.sees (t :: r) [40] = true) (ho : ¬ 40 ≤ o)
 (hF : ∀ w1, SA w1 b n (.live r (o + 1) k) → lo < w1.heap.size → Calls Tryz.prog 115 #[pp b] w1 (QS ExAt IsPtr lo w1 b n ((St.live r (o + 1) k).lift n kI (esum f)))) :
 Calls Tryz.prog 183 #[pp b] w (QS ExAt IsPtr lo w b n ((St.live (t :: r) o k).lift n kI (eun (f + 1)))) := by
 have HR := Hd (un_par_lift (n := n) (f := f) (k := k) hn hy ho)
 have hdp := St.lift_depth n kI (esum f) (St.live r (o + 1) k)
 have c3 := h.flag
 simp only [St.err] at c3
 obtain ⟨g, off, L, cap, i, c0, c1, hi, hL, hcap, -, -, -, -, -⟩ := h.head
 have hlt : decide ((L : Int) ≤ (i : Int)) = false := by simp; omega
 have hlt' : decide (L ≤ i) = false := by simp; omega
 have HI := Hd (fun w' (h : SA w' b n (.live (t :: r) o k)) => qis_any w' b n _ h [45])
 have hse : (St.live (t :: r) o k).sees [45] = false := hn
 rw [hse] at HI
 have HI2 := Hd (fun w' (h : SA w' b n (.live (t :: r) o k)) => qis_any w' b n _ h [40])
 have hse2 : (St.live (t :: r) o k).sees [40] = true := hy
 rw [hse2] at HI2
 have HO := Hd (fun w' (h : SA w' b n (.live (t :: r) o k)) => qopen_any w' b n _ h (fun ts o' k' e => by injection e; omega))
 have hop : (St.live (t :: r) o k).open n = (true, .live (t :: r) (o + 1) k) := by simp [St.open, ho]
 rw [hop] at HO
 obtain ⟨P, hP⟩ : ∃ P, P = (St.live r (o + 1) k).lift n kI (esum f) := ⟨_, rfl⟩
 rw [List.tail_cons, ← hP] at HR
 rw [← hP] at hF hdp
 have HW := Hd (fun w' (h : SA w' b n P.2) => qwant_any w' b n P.2 h [41])
 have H := Hd h
 have HFF := Hd hF
 have HDP := Hd (show (P.2.want n [41]).depth = o + 1 from (St.want_depth n [41] P.2).trans hdp)
 rw [HR.out]
 clear h hF hy hn hse hse2 hP hdp hop
 go_enter Tryz.func183, Tryz.ntmps183
 go_wp2
 go_region
 go_wp2_with fail
 refine (HI.out _ (H.out.drewN _)).mono ?_
 rintro e w1 ⟨rfl, hk⟩
 have HK := Hd (((Keeps.refl _ _).drewN _).trans hk (fun _ h _ => h))
 have H1 := Hd (H.out.keep HK.out)
 clear hk
 go_wp2_with fail
 refine (HI2.out _ H1.out).mono ?_
 rintro e w1b ⟨rfl, hk⟩
 have HK := zV HK hk
 have H1 := Hd (H1.out.keep hk)
 clear hk
 go_wp2_with fail
 refine (HO.out _ H1.out).mono ?_
 rintro e w2 ⟨rfl, h2, hk⟩
 obtain ⟨g', off', L', cap', i', c0', c1', hi', hL', e0, d1, e1, f1, hq⟩ := h2.prev
 have HK := Hd ((HK.out.mono (T := [b]) (by simp)).trans hk (fun _ h _ => h))
 have HQ := Hd hq
 clear h2 hk hq e0 d1 e1 c0' c0 c1 hlt hlt' c3
 go_wp2_with fail
 refine (HFF.out _ HQ.out (by have := HK.out.size; simp; omega)).mono ?_
 rintro e w3 ⟨v, rfl, ⟨q, rfl⟩, hk, hs, ha⟩
 have HK := Hd ((HK.out.set1 1 _).trans hk (fun _ h _ => h))
 have HS := Hd hs
 have HA := Hd ha
 clear hk hs ha c1'
 go_wp2_with fail
 refine (HW.out _ HS.out).mono ?_
 rintro e w4 ⟨rfl, hs, hk⟩
 have HK := zV HK hk
 have HK2 := Hd hk
 obtain ⟨c5, f5, hset⟩ := hs.deep
 have HSET := Hd hset
 rw [HDP.out] at c5
 clear hk hs hset
 go_wp2
 go_ret
 refine ⟨.pointer q, rfl, ⟨_, rfl⟩, HK.out.set1 5 _, HSET.out o, fun a h => ?_⟩
 exact ((HA.out a (gate_some h)).keep (S := [b]) HK2.out (by simp; omega)).keep (S := [b]) ((Keeps.refl _ _).set1 5 _) (by simp; omega)
end
section
set_option maxHeartbeats 2000000
set_option maxRecDepth 100000
open Go.RowKit Go.Shelf
open Lx (Tok Tx)
open Px (Ex Cn)
theorem SA.set1 {w : World} {b n : Nat} {ts : List Tok} {o k : Nat} (h : SA w b n (.live ts o k)) (v : Value) : (w.setCell ⟨b, 1, none⟩ v).cell? ⟨b, 1, none⟩ = some v := by
 obtain ⟨A, cap, g, all, j, h1, _⟩ := h
 rw [row_cell (row_set h1 1 v)]
 rfl
theorem stageQ {w w' : World} {b n g off L cap i : Nat} {x : ByteArray} {σ : St} {Q : World → Prop} (hk : Keeps [b] w w') (hs : SA w' b n σ) (h0 : w'.cell? ⟨b, 0, none⟩ = some (.slice (some ⟨g, off, none⟩) L cap)) (h1 : w'.cell? ⟨b, 1, none⟩ = some (.int .i64 ((i : Int) + 1))) (h2 : w'.cell? ⟨g, off + i * 3 + 1, none⟩ = some (.string x))
 (h : ∀ W, Keeps [b] w W → SA W b n σ → W.cell? ⟨b, 0, none⟩ = some (.slice (some ⟨g, off, none⟩) L cap) → W.cell? ⟨b, 1, none⟩ = some (.int .i64 ((i : Int) + 1)) → W.cell? ⟨g, off + i * 3 + 1, none⟩ = some (.string x) → Q W) : Q w' := h w' hk hs h0 h1 h2
theorem qun_num (f : Nat) (w : World) (b n : Nat) (t : Tok) (r : List Tok) (o k lo : Nat) (h : SA w b n (.live (t :: r) o k)) (hb : b ≤ lo) (hlo : lo < w.heap.size) (hn : Px.sees (t :: r) [45] = false) (hn2 : Px.sees (t :: r) [40] = false) (hy : t.kind = 1) :
 Calls Tryz.prog 183 #[pp b] w (QS ExAt IsPtr lo w b n ((St.live (t :: r) o k).lift n kI (eun (f + 1)))) := by
 have HR := Hd (un_num_lift (n := n) (f := f) (o := o) (k := k) hn hn2 (show Px.isNum (t :: r) = true by simp [Px.isNum, hy]))
 have c3 := h.flag
 simp only [St.err] at c3
 obtain ⟨g, off, L, cap, i, c0, c1, hi, hL, hcap, -, -, -, -, -⟩ := h.head
 have hlt : decide ((L : Int) ≤ (i : Int)) = false := by simp; omega
 have hlt' : decide (L ≤ i) = false := by simp; omega
 have HI := Hd (fun w' (h : SA w' b n (.live (t :: r) o k)) => qis_any w' b n _ h [45])
 have hse : (St.live (t :: r) o k).sees [45] = false := hn
 rw [hse] at HI
 have HI2 := Hd (fun w' (h : SA w' b n (.live (t :: r) o k)) => qis_any w' b n _ h [40])
 have hse2 : (St.live (t :: r) o k).sees [40] = false := hn2
 rw [hse2] at HI2
 have H := Hd h
 rw [HR.out]
 have hwf : Px.Wf t := h.good.wf t (by simp)
 have HN := Hd (fun w' => qnumber_any w' t.text (by have := hwf.len; omega) (hwf.num hy).1 (hwf.num hy).2)
 have HT : Px.txt (t :: r) 0 = t.text := rfl
 rw [HT]
 obtain ⟨x, hx⟩ : ∃ x, x = strO t.text := ⟨_, rfl⟩
 have HX := Hd hx
 rw [← hx] at HN
 clear h hn hn2 hse hse2 hwf HT hx
 go_enter Tryz.func183, Tryz.ntmps183
 go_wp2
 go_region
 go_wp2_with fail
 refine (HI.out _ (H.out.drewN _)).mono ?_
 rintro e w1 ⟨rfl, hk⟩
 have HK := Hd (((Keeps.refl _ _).drewN _).trans hk (fun _ h _ => h))
 have H1 := Hd (H.out.keep HK.out)
 clear hk
 go_wp2_with fail
 refine (HI2.out _ H1.out).mono ?_
 rintro e w2 ⟨rfl, hk⟩
 have HK := zV HK hk
 have h2 := H1.out.keep hk
 clear hk c0 c1 c3 hlt hlt' hi hL hcap
 obtain ⟨g2, off2, L2, cap2, i2, c0, c1, hi, hL, hcap, d0, d1, -, -, hgb⟩ := h2.head
 obtain ⟨cs, hrow, -, -, -, -, -, hfz⟩ := h2.row
 have f1 := hfz 1
 have hne : g2 ≠ b := by omega
 have hlt1 : decide ((i2 : Int) < (L2 : Int)) = true := by simp; omega
 have hlt2 : decide (i2 < L2) = true := by simp; omega
 rw [← HX.out] at d1
 rw [hy] at d0
 have hs1 : IntKind.i64.wrap (i2 : Int) = (i2 : Int) := IntWalk.i64_in _ (by omega)
 have hlt3 : (i2 : Int) < (L2 : Int) := by omega
 have hge0 : (0 : Int) ≤ (i2 : Int) := by omega
 have hs2 : (i2 : Int) + 1 - 1 = (i2 : Int) := by omega
 have H2 := Hd h2
 have HC1 := Hd c1
 have HC0 := Hd c0
 have HD1 := Hd d1
 clear h2 hrow hfz hgb d1
 go_wp2
 go_region
 go_wp2
 refine stageQ (w := w) (b := b) (n := n) (σ := .live r o k) (g := g2) (off := off2) (L := L2) (cap := cap2) (i := i2) (x := x) ?_ ?_ ?_ ?_ ?_ ?_
 · exact ((HK.out.mono (by simp)).drewN _).set1 _ _
 · exact (H2.out.drewN _).setI (by simpa using HC1.out)
 · exact (World.cell?_setCell_other _ _ _ _ (by simp)).trans (by simpa using HC0.out)
 · exact (H2.out.drewN _).set1 _
 · exact (World.cell?_setCell_other _ _ _ _ (ne_blk (Ne.symm hne))).trans (by simpa using HD1.out)
 clear c0 c1 f1 HK
 intro W hk hs c0 c1 d1
 have HK := Hd hk
 have HS := Hd hs
 clear hk hs
 go_still_tail 12, (by kernel_rfl)
 change wpList _ _ _ _ _ W.drew
 have HK2 := Hd (HK.out.drew)
 have HS2 := Hd (HS.out.keep ((Keeps.refl _ _).drew))
 clear c0 c1 d1
 generalize W.drew = W2 at HK2 HS2 ⊢
 go_wp2_with fail
 refine (same (HN.out _)) ?_
 go_wp2
 go_ret
 refine ⟨.pointer (some ⟨W2.heap.size, 0, none⟩), rfl, ⟨_, rfl⟩, HK2.out.alloc _, HS2.out.keep ((Keeps.refl _ _).alloc _), fun a h => ?_⟩
 obtain rfl := Option.some.inj h
 exact ⟨_, rfl, by have := HK2.out.size; omega, heap_alloc_new _ _⟩
theorem qun_var (f : Nat) (w : World) (b n : Nat) (t : Tok) (r : List Tok) (o k lo : Nat) (h : SA w b n (.live (t :: r) o k)) (hb : b ≤ lo) (hlo : lo < w.heap.size) (hn : Px.sees (t :: r) [45] = false) (hn2 : Px.sees (t :: r) [40] = false) (hk1 : t.kind ≠ 1) (hy : Px.isName (t :: r) = true) :
 Calls Tryz.prog 183 #[pp b] w (QS ExAt IsPtr lo w b n ((St.live (t :: r) o k).lift n kI (eun (f + 1)))) := by
 have HR := Hd (un_var_lift (n := n) (f := f) (o := o) (k := k) hn hn2 (show Px.isNum (t :: r) = false by simp [Px.isNum, hk1]) hy)
 have c3 := h.flag
 simp only [St.err] at c3
 obtain ⟨g, off, L, cap, i, c0, c1, hi, hL, hcap, -, -, -, -, -⟩ := h.head
 have hlt : decide ((L : Int) ≤ (i : Int)) = false := by simp; omega
 have hlt' : decide (L ≤ i) = false := by simp; omega
 have HI := Hd (fun w' (h : SA w' b n (.live (t :: r) o k)) => qis_any w' b n _ h [45])
 have hse : (St.live (t :: r) o k).sees [45] = false := hn
 rw [hse] at HI
 have HI2 := Hd (fun w' (h : SA w' b n (.live (t :: r) o k)) => qis_any w' b n _ h [40])
 have hse2 : (St.live (t :: r) o k).sees [40] = false := hn2
 rw [hse2] at HI2
 have H := Hd h
 rw [HR.out]
 have HNM := Hd (fun w' (h : SA w' b n (.live (t :: r) o k)) => qnamed_any w' b n _ h)
 have hnm : (St.live (t :: r) o k).named = true := hy
 rw [hnm] at HNM
 have HNA := Hd (fun w' (h : SA w' b n (.live (t :: r) o k)) => qname_any w' b n _ h)
 have hna : (St.live (t :: r) o k).name n = .live r o k := by unfold St.name; rw [if_pos hnm]; rfl
 rw [hna] at HNA
 obtain ⟨z, hz⟩ : ∃ z : Int, z = (t.kind : Int) := ⟨_, rfl⟩
 have hz1 : (z == 1) = false := by rw [hz]; simp; omega
 have hz3 : decide (z = 1) = false := by rw [hz]; simp; omega
 have HY := Hd hy
 have HZ := Hd hz
 clear h hn hn2 hse hse2 hnm hna hy hz hk1
 go_enter Tryz.func183, Tryz.ntmps183
 go_wp2
 go_region
 go_wp2_with fail
 refine (HI.out _ (H.out.drewN _)).mono ?_
 rintro e w1 ⟨rfl, hk⟩
 have HK := Hd (((Keeps.refl _ _).drewN _).trans hk (fun _ h _ => h))
 have H1 := Hd (H.out.keep HK.out)
 clear hk
 go_wp2_with fail
 refine (HI2.out _ H1.out).mono ?_
 rintro e w2 ⟨rfl, hk⟩
 have HK := zV HK hk
 have h2 := H1.out.keep hk
 clear hk c0 c1 c3 hlt hlt' hi hL hcap
 obtain ⟨g2, off2, L2, cap2, i2, c0, c1, hi, hL, hcap, d0, d1, -, -, hgb⟩ := h2.head
 have hne : g2 ≠ b := by omega
 have hlt1 : decide ((i2 : Int) < (L2 : Int)) = true := by simp; omega
 have hlt2 : decide (i2 < L2) = true := by simp; omega
 rw [← HZ.out] at d0
 have H2 := Hd h2
 clear h2 hgb d1
 go_wp2
 go_region
 go_wp2_with fail
 refine (HNM.out _ (H2.out.drewN _)).mono ?_
 rintro e w3 ⟨rfl, hk⟩
 have HK := Hd ((HK.out.drewN _).trans hk (fun _ h _ => h))
 have H3 := Hd ((H2.out.drewN _).keep hk)
 clear hk c0 c1 d0
 go_wp2_with fail
 refine (HNA.out _ H3.out).mono ?_
 rintro e w4 ⟨⟨s, rfl, hs⟩, h4, hk⟩
 have hs2 := hs _ _ _ rfl HY.out
 have HK := Hd ((HK.out.mono (by simp)).trans hk (fun _ h _ => h))
 have H4 := Hd h4
 have HS2 := Hd hs2
 clear hk h4 hs hs2
 go_wp2
 go_ret
 refine ⟨.pointer (some ⟨w4.heap.size, 0, none⟩), rfl, ⟨_, rfl⟩, HK.out.alloc _, H4.out.keep ((Keeps.refl _ _).alloc _), fun a h => ?_⟩
 obtain rfl := Option.some.inj h
 exact ⟨_, rfl, by have := HK.out.size; omega, by rw [← HS2.out]; exact heap_alloc_new _ _⟩
theorem qun_none (f : Nat) (w : World) (b n : Nat) (t : Tok) (r : List Tok) (o k lo : Nat) (h : SA w b n (.live (t :: r) o k)) (hn : Px.sees (t :: r) [45] = false) (hn2 : Px.sees (t :: r) [40] = false) (hk1 : t.kind ≠ 1) (hy : Px.isName (t :: r) = false) :
 Calls Tryz.prog 183 #[pp b] w (QS ExAt IsPtr lo w b n ((St.live (t :: r) o k).lift n kI (eun (f + 1)))) := by
 have HR := Hd (un_none_lift (n := n) (f := f) (o := o) (k := k) hn hn2 (show Px.isNum (t :: r) = false by simp [Px.isNum, hk1]) hy)
 have c3 := h.flag
 simp only [St.err] at c3
 obtain ⟨g, off, L, cap, i, c0, c1, hi, hL, hcap, -, -, -, -, -⟩ := h.head
 have hlt : decide ((L : Int) ≤ (i : Int)) = false := by simp; omega
 have hlt' : decide (L ≤ i) = false := by simp; omega
 have HI := Hd (fun w' (h : SA w' b n (.live (t :: r) o k)) => qis_any w' b n _ h [45])
 have hse : (St.live (t :: r) o k).sees [45] = false := hn
 rw [hse] at HI
 have HI2 := Hd (fun w' (h : SA w' b n (.live (t :: r) o k)) => qis_any w' b n _ h [40])
 have hse2 : (St.live (t :: r) o k).sees [40] = false := hn2
 rw [hse2] at HI2
 have H := Hd h
 rw [HR.out]
 have HNM := Hd (fun w' (h : SA w' b n (.live (t :: r) o k)) => qnamed_any w' b n _ h)
 have hnm : (St.live (t :: r) o k).named = false := hy
 rw [hnm] at HNM
 have HF := Hd (fun w' (h : SA w' b n (.live (t :: r) o k)) => qfail_any w' b n _ h 51 (by omega) (by omega))
 obtain ⟨z, hz⟩ : ∃ z : Int, z = (t.kind : Int) := ⟨_, rfl⟩
 have hz1 : (z == 1) = false := by rw [hz]; simp; omega
 have hz3 : decide (z = 1) = false := by rw [hz]; simp; omega
 have HZ := Hd hz
 clear h hn hn2 hse hse2 hnm hy hz hk1
 go_enter Tryz.func183, Tryz.ntmps183
 go_wp2
 go_region
 go_wp2_with fail
 refine (HI.out _ (H.out.drewN _)).mono ?_
 rintro e w1 ⟨rfl, hk⟩
 have HK := Hd (((Keeps.refl _ _).drewN _).trans hk (fun _ h _ => h))
 have H1 := Hd (H.out.keep HK.out)
 clear hk
 go_wp2_with fail
 refine (HI2.out _ H1.out).mono ?_
 rintro e w2 ⟨rfl, hk⟩
 have HK := zV HK hk
 have h2 := H1.out.keep hk
 clear hk c0 c1 c3 hlt hlt' hi hL hcap
 obtain ⟨g2, off2, L2, cap2, i2, c0, c1, hi, hL, hcap, d0, d1, -, -, hgb⟩ := h2.head
 have hne : g2 ≠ b := by omega
 have hlt1 : decide ((i2 : Int) < (L2 : Int)) = true := by simp; omega
 have hlt2 : decide (i2 < L2) = true := by simp; omega
 rw [← HZ.out] at d0
 have H2 := Hd h2
 clear h2 hgb d1
 go_wp2
 go_region
 go_wp2_with fail
 refine (HNM.out _ (H2.out.drewN _)).mono ?_
 rintro e w3 ⟨rfl, hk⟩
 have HK := Hd ((HK.out.drewN _).trans hk (fun _ h _ => h))
 have H3 := Hd ((H2.out.drewN _).keep hk)
 clear hk c0 c1 d0
 go_wp2_with fail
 refine (HF.out _ H3.out).mono ?_
 rintro e w4 ⟨rfl, h4, hk⟩
 have HK := Hd ((HK.out.mono (by simp)).trans hk (fun _ h _ => h))
 have H4 := Hd h4
 clear hk h4
 go_wp2
 go_ret
 exact ⟨.pointer none, rfl, ⟨_, rfl⟩, HK.out, H4.out, fun _ h => by cases h⟩
theorem qun_step (f : Nat) (hE : QE f) (w : World) (b n : Nat) (σ : St) (lo : Nat) (h : SA w b n σ) (hf : σ.fits (f + 1) 1) (hb : b ≤ lo) (hlo : lo < w.heap.size) :
 Calls Tryz.prog 183 #[pp b] w (QS ExAt IsPtr lo w b n (σ.lift n kI (eun (f + 1)))) := by
 cases σ with
 | dead z p o => exact qun_dead w b n z p o lo h _ rfl
 | live ts o k =>
  match ts, h, hf with
  | [], h, hf => exact qun_nil w b n o k lo h _ (un_none_lift (by rfl) (by rfl) (by rfl) (by rfl))
  | t :: r, h, ⟨ho2, hl⟩ =>
   simp only [List.length_cons] at hl
   cases hs : Px.sees (t :: r) [45] with
   | true =>
    by_cases ho : 40 ≤ o
    · exact qun_open f w b n t r o k lo h ho2 (.inl hs) ho
    · exact qun_neg f w b n t r o k lo h hb hlo hs ho (fun w1 h1 hlo1 => hE.un w1 b n _ lo h1 ⟨by omega, by omega⟩ hb hlo1)
   | false =>
    cases hs2 : Px.sees (t :: r) [40] with
    | true =>
     by_cases ho : 40 ≤ o
     · exact qun_open f w b n t r o k lo h ho2 (.inr ⟨hs, hs2⟩) ho
     · exact qun_par f w b n t r o k lo h hb hlo hs hs2 ho (fun w1 h1 hlo1 => hE.sum w1 b n _ lo h1 ⟨by omega, by omega⟩ hb hlo1)
    | false =>
     by_cases hk1 : t.kind = 1
     · exact qun_num f w b n t r o k lo h hb hlo hs hs2 hk1
     ·
      cases hy : Px.isName (t :: r) with
      | true => exact qun_var f w b n t r o k lo h hb hlo hs hs2 hk1 hy
      | false => exact qun_none f w b n t r o k lo h hs hs2 hk1 hy
end
end Go.Proofs.YtbikifibfaaggaaGreatDoor
