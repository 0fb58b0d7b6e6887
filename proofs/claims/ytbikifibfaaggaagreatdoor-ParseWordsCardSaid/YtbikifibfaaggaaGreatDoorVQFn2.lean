import Derived.Test.YtbikifibfaaggaaGreatDoorVQFn
namespace Go.Proofs.YtbikifibfaaggaaGreatDoor
set_option maxHeartbeats 16000000
set_option maxRecDepth 100000
open Go.RowKit Go.Shelf
open Lx (Tok Tx)
open Px (Ex Cn Sm Vr)
open Reg (Is Fact)
attribute [local go_sem] Reg.wantedV Reg.gives_value Reg.gives_skip Reg.gives_enter
theorem params_start {n m : Nat} {σ3 : St} {PP : Option (List Vr) × St} (hR : Root m σ3) (hP : ∃ g, m < g ∧ PP = σ3.lift n kI (vparamsM g [])) (hm : m ≤ 5000) :
 (∃ g r, σ3 = .live r 0 0 ∧ r.length < g ∧ ([] : List Vr).length + r.length ≤ 5000 ∧ r.length ≤ m ∧ PP = σ3.lift n kI (vparamsM g [])) ∨ (∃ z p, σ3 = .dead z p 0 ∧ PP = (none, σ3)) := by
 obtain ⟨g, hg, hP⟩ := hP
 rcases hR with ⟨r, h, hl⟩ | ⟨z, p, h⟩
 · exact .inl ⟨g, r, h, by omega, by simp; omega, hl, hP⟩
 · exact .inr ⟨z, p, h, by rw [hP, h]; rfl⟩
theorem params_step {n g : Nat} {r : List Tok} {ll : List Vr} {PP : Option (List Vr) × St} {σm : St} (hPM : PP = (St.live r 0 0).lift n kI (vparamsM (g + 1) ll)) (hm : σm = dcl n 6 ll.length ((St.live r 0 0).take [42])) :
 (σm.sees [41] = true → ∃ q, (St.live r 0 0).take [42] = .live q 0 0 ∧ Px.isName q = true ∧ ll.length < 6 ∧ PP = (some (ll ++ [(Px.txt q 0, (St.live r 0 0).sees [42])]), σm.adv) ∧ ∃ r2, σm = .live r2 0 0 ∧ r2.length + 1 ≤ r.length) ∧
 (σm.sees [41] = false → (∃ q r2, (St.live r 0 0).take [42] = .live q 0 0 ∧ Px.isName q = true ∧ ll.length < 6 ∧ σm.want n [44] = .live r2 0 0 ∧ r2.length + 2 ≤ r.length ∧ PP = (St.live r2 0 0).lift n kI (vparamsM g (ll ++ [(Px.txt q 0, (St.live r 0 0).sees [42])]))) ∨
  ∃ z p, σm.want n [44] = .dead z p 0 ∧ PP = (none, .dead z p 0)) := by
 rcases param_cases (n := n) (j := ll.length) (o := 0) (k := 0) (ts := r) with ⟨r2, h1, h2, h3, h4, h5, h6⟩ | ⟨z, r2, h2, h6⟩
 ·
  rw [h6] at hm
  subst hm
  refine ⟨fun hs => ⟨_, h5, h3, h4, ?_, r2, rfl, h1⟩, fun hs => ?_⟩
  · rw [hPM, paramsM_end h2 hs]; rfl
  ·
   cases hc : Px.sees r2 [44] with
   | true =>
    have := sees_tail hc
    refine .inl ⟨_, r2.tail, h5, h3, h4, St.want_live hc, by simp at this ⊢; omega, ?_⟩
    rw [hPM, paramsM_next h2 hs hc]; rfl
   | false => exact .inr ⟨51, _, St.want_no hc, by rw [hPM, paramsM_bad h2 hs hc]⟩
 ·
  rw [h6] at hm
  subst hm
  refine ⟨(fun hs => by cases hs), fun _ => .inr ⟨z, _, rfl, ?_⟩⟩
  rw [hPM, paramsM_err h2]
structure MRg (w0 : World) (b n X1 : Nat) (σ : St) (l : List Vr) (v : Value) (base : Nat) (sx : ByteArray) (L : Nat → Bool) (vs : Nat → Value) (w' : World) : Prop where
 k : Keeps (b :: X1 :: v.ownBlock.toList) w0 w'
 c7 : L 7 = true → L 5 = true
 c5 : L 5 = true → L 2 = true ∧ L 4 = true
 r0 : L 7 = false → w'.heap[X1]? = some (.cells (fRow sx v (.slice none 0 0) (.slice none 0 0)).toArray 26 (0, 0))
 r1 : L 7 = true → w'.heap[X1]? = some (.cells (fRow sx (vs 5) (.slice none 0 0) (.slice none 0 0)).toArray 26 (0, 0))
 s0 : L 4 = false → SA w' b n σ
 s1 : L 4 = true → L 5 = false → SA w' b n (σ.take [42])
 o0 : L 5 = false → w'.ownsRow base 123 2 v l.length (varCells l)
 o1 : L 5 = true → IsSl (vs 5) ∧ SA w' b n (dcl n 6 l.length (σ.take [42])) ∧ ∃ l', w'.ownsRow base 123 2 (vs 5) l'.length (varCells l') ∧ l'.length ≤ l.length + 1 ∧ ∀ ts o k, σ.take [42] = .live ts o k → Px.isName ts = true → l.length < 6 → l' = l ++ [(Px.txt ts 0, σ.sees [42])]
theorem MRg.pure {w0 : World} {b n X1 : Nat} {σ : St} {l : List Vr} {v : Value} {base : Nat} {sx : ByteArray} {L : Nat → Bool} {vs : Nat → Value} {w' : World} (h : MRg w0 b n X1 σ l v base sx L vs w') {i : Nat} {u : Value} (hi : i ≠ 4 ∧ i ≠ 5 ∧ i ≠ 7) : MRg w0 b n X1 σ l v base sx (Reg.lay L i) (Reg.upd vs i u) w' := by
 obtain ⟨h4, h5, h7⟩ := hi
 refine ⟨h.k, ?_, ?_, ?_, ?_, ?_, ?_, ?_, ?_⟩
 · rw [lay_ne h7, lay_ne h5]; exact h.c7
 ·
  rw [lay_ne h5, lay_ne h4]
  intro h2
  refine ⟨?_, (h.c5 h2).2⟩
  unfold Reg.lay
  rw [(h.c5 h2).1]; rfl
 · rw [lay_ne h7]; exact h.r0
 · rw [lay_ne h7, upd_ne h5]; exact h.r1
 · rw [lay_ne h4]; exact h.s0
 · rw [lay_ne h4, lay_ne h5]; exact h.s1
 · rw [lay_ne h5]; exact h.o0
 · rw [lay_ne h5, upd_ne h5]; exact h.o1
theorem false_of {x y : Bool} (h : x = true → y = true) (hy : y = false) : x = false := by
 cases x with
 | false => rfl
 | true => have := h rfl; rw [hy] at this; cases this
theorem rfunc_some (w : World) (l : Tx) (hl : l.length ≤ 5000) (ts : List Tok) (pos : Nat) (ho : Lx.toks l = ⟨ts, pos, 0⟩) {n f : Nat} (hn : n = l.length) (hf : f = Px.fuelOf ts) {σ3 : St} (h3 : σ3 = (((St.live ts 0 0).want n [102, 110]).name n).want n [40]) {PP LL : Option (List Vr) × St} {BB : Option (List Sm × Nat) × St} (hP : PP = σ3.lift n kI (vparams f)) (hL : LL = (brace n PP.2).lift n kI (vlocals f [])) (hB : BB = LL.2.lift n kS (sstmts f [])) (hsee : σ3.sees [41] = false) :
 Calls Tryz.prog 14 #[.string (strO l)] w (AttP FnAt (.agg #[.string .empty, .slice none 0 0, .slice none 0 0, .slice none 0 0]) w (fnGot n (Px.txt ts.tail 0) PP.1 LL.1 BB.1 BB.2)) := by
 obtain ⟨X0, hX0⟩ : ∃ x, x = w.heap.size := ⟨_, rfl⟩
 have hgood : Px.Good ts := by have := toks_good l; rw [ho] at this; exact this
 have HLX := Hd (rtokens_any (w.alloc (.cells #[.string ⟨#[]⟩, .slice none 0 0, .slice none 0 0, .slice none 0 0] 26)) l hl)
 rw [ho] at HLX
 have HZ0 := Hd (heap_alloc_new w (.cells #[.string ⟨#[]⟩, .slice none 0 0, .slice none 0 0, .slice none 0 0] 26))
 obtain ⟨s, hs⟩ : ∃ s, s = strO l := ⟨_, rfl⟩
 have hsz : s.size = l.length := by rw [hs, strO_len]
 rw [← hs] at HLX ⊢
 have HW1 := Hd (fun (w' : World) (b : Nat) (h : SA w' b n (.live ts 0 0)) => qwant_any w' b n _ h [102, 110])
 have HNA := Hd (fun (w' : World) (b : Nat) (h : SA w' b n ((St.live ts 0 0).want n [102, 110])) => qname_any w' b n _ h)
 have HW2 := Hd (fun (w' : World) (b : Nat) (h : SA w' b n (((St.live ts 0 0).want n [102, 110]).name n)) => qwant_any w' b n _ h [40])
 rw [← h3] at HW2
 have HT1 := Hd (fun (w' : World) (b : Nat) (h : SA w' b n σ3) => qtake_any w' b n _ h [41])
 have hrt := hrt_of h3
 have HRT := Hd hrt
 have hfl : 4 * ts.length + 12 ≤ f := by rw [hf]; exact Nat.le_refl _
 have HFL := Hd hfl
 have HP9 := Hd hP
 have HL9 := Hd hL
 have HB9 := Hd hB
 have H39 := Hd h3
 have hn5 : n ≤ 5000 := by omega
 have HNL := Hd hn
 have hpp : ∃ g, ts.length < g ∧ PP = σ3.lift n kI (vparamsM g []) := by
  obtain ⟨g, hg⟩ : ∃ g, f = g + 1 := ⟨f - 1, by omega⟩
  refine ⟨g, by omega, ?_⟩
  rw [hP, hg]
  exact params_some hsee
 have htk : σ3.take [41] = σ3 := by unfold St.take; rw [hsee]; rfl
 rw [htk, hsee] at HT1
 have HPP := Hd hpp
 clear hpp hsee htk
 have HHL := Hd hl
 have HGD := Hd hgood
 have HXZ := Hd hX0
 have HGL := Hd hgood.len
 clear ho hP hL hB h3 hrt hfl hf hn hs hgood hl hX0
 go_enter Tryz.func14, Tryz.ntmps14
 go_wp2_with fail
 refine (HLX.out).mono ?_
 rintro e w1 ⟨A, c, g, rfl, htk, hg, hk⟩
 have HZ0 := Hd (block_keep HZ0.out hk (by simp))
 have HTK := Hd htk
 have HG9 := Hd hg
 have HKK := Hd (((Keeps.refl [] w).alloc (.cells #[.string ⟨#[]⟩, .slice none 0 0, .slice none 0 0, .slice none 0 0] 26)).trans hk (fun _ h _ => h))
 have hsz1 : w.heap.size < w1.heap.size := by have := hk.size; simp at this; omega
 have HSZ1 := Hd hsz1
 clear htk hg hk hsz1
 go_upto_region 6 with fail
 obtain ⟨b, hb⟩ : ∃ b, b = w1.heap.size := ⟨_, rfl⟩
 obtain ⟨X1, hX1⟩ : ∃ x, x = b + 1 := ⟨_, rfl⟩
 refine stageF (w := w) (b := b) (n := n) (σ := .live ts 0 0) (X0 := X0) (X1 := X1) (T := 26) (cs0 := #[.string ⟨#[]⟩, .slice none 0 0, .slice none 0 0, .slice none 0 0]) (cs1 := #[.string ⟨#[]⟩, .slice none 0 0, .slice none 0 0, .slice none 0 0]) ?_ ?_ ?_ ?_ ?_
 · exact (HKK.out.alloc _).alloc _
 · rw [HXZ.out]; exact block_keep HZ0.out (((Keeps.refl [] w1).alloc _).alloc _) (by simp)
 ·
  rw [hX1, hb]
  have := heap_alloc_new (w1.alloc (.cells #[.slice A ts.length c, .int .i64 0, .int .i64 (n : Int), .int .i64 0, .int .i64 0, .int .i64 0, .int .i64 0] 81)) (.cells #[.string ⟨#[]⟩, .slice none 0 0, .slice none 0 0, .slice none 0 0] 26)
  rw [show (w1.alloc (.cells #[.slice A ts.length c, .int .i64 0, .int .i64 (n : Int), .int .i64 0, .int .i64 0, .int .i64 0, .int .i64 0] 81)).heap.size = w1.heap.size + 1 by simp] at this
  rw [HNL.out] at this
  first | exact this | (rw [hsz]; exact this)
 ·
  rw [hb, HNL.out]
  exact SA.make HTK.out (fun h => HTK.out.lt h) HGD.out (by have := HSZ1.out; omega)
 intro v0 hk hb0 hb1 hs
 have HX := Hd (show X0 = w.heap.size ∧ X0 < b ∧ X1 = b + 1 from ⟨HXZ.out, by have := HSZ1.out; have := HXZ.out; omega, hX1⟩)
 have HK := Hd hk
 have HB0 := Hd hb0
 have HB := Hd hb1
 have HS := Hd hs
 have hx0 : w.heap.size = X0 := HX.out.1.symm
 have hx1 : b + 1 = X1 := HX.out.2.2.symm
 simp only [← hb, hx0, hx1]
 clear hk hb0 hb1 hs hx0 hx1 hb hX1 HTK HG9 HKK HSZ1 HZ0 HLX HGD
 go_wp2_with fail
 refine (cV (HW1.out _ b HS.out) HK HB HB0) fun v1 HK HB HB0 HS => ?_
 go_wp2_with fail
 refine (HNA.out _ b HS.out).mono ?_
 rintro e v2 ⟨⟨s, rfl, hnm⟩, hs, hk⟩
 have HK := zH HK hk
 have HB := zB HB hk
 have HB0 := zB HB0 hk
 have HN := Hd hnm
 obtain ⟨sx, hsx⟩ : ∃ y, y = strO s := ⟨_, rfl⟩
 have HSX := Hd hsx
 rw [← hsx]
 have HS := Hd hs
 clear hs hk hnm hsx
 obtain ⟨cc0, ff0⟩ := rowi HB.out 0
 have hk : Keeps [X1] v2 (v2.setCell ⟨X1, 0, none⟩ (.string sx)) := (Keeps.refl [X1] _).set1 _ _
 have HB := Hd (show (v2.setCell ⟨X1, 0, none⟩ (.string sx)).heap[X1]? = some (.cells (fRow sx (.slice none 0 0) (.slice none 0 0) (.slice none 0 0)).toArray 26 (0, 0)) from row_set HB.out 0 _)
 have HB0 := zB HB0 hk
 have HK := zH HK hk
 have HS := zI HS hk
 clear hk
 go_wp2_with fail
 refine (cV (HW2.out _ b HS.out) HK HB HB0) fun v3 HK HB HB0 HS => ?_
 clear cc0 ff0
 go_wp2_with fail
 refine (cV (HT1.out _ b HS.out) HK HB HB0) fun v4 HK HB HB0 HS => ?_
 have HTS := Hd (show ts.length ≤ 5000 from HGL.out)
 have HBX9 := Hd (show X1 < v4.heap.size from block_lt HB.out)
 go_wp2_with fail
 go_loopw [42] (fun _ wr => ∃ (σ : St) (A : Option Addr) (m c : Nat) (ll : List Vr), SA wr b n σ ∧ Keeps [] w wr ∧ wr.heap[X0]? = some (.cells #[.string ⟨#[]⟩, .slice none 0 0, .slice none 0 0, .slice none 0 0] 26 (0, 0)) ∧ wr.heap[X1]? = some (.cells (fRow sx (.slice A m c) (.slice none 0 0) (.slice none 0 0)).toArray 26 (0, 0)) ∧ wr.ownsRow (X1 + 1) 123 2 (.slice A m c) ll.length (varCells ll) ∧ ((∃ g r, σ = .live r 0 0 ∧ r.length < g ∧ ll.length + r.length ≤ 5000 ∧ r.length ≤ ts.length ∧ PP = σ.lift n kI (vparamsM g ll)) ∨ (∃ z p, σ = .dead z p 0 ∧ PP = (none, σ)))) (fun _ wr => qrank wr b)
 case atStart => exact ⟨_, none, 0, 0, [], HS.out, HK.out, HB0.out, HB.out, World.ownsRow_nil _ _ _ _, params_start HRT.out HPP.out HTS.out⟩
 case round =>
  obtain ⟨σ, Ap, mp, cp, ll, hs, hk, hb0, hb1, hown, hc⟩ := hrel
  have c3 := hs.flag
  have HS := Hd hs
  have HK := Hd hk
  have HB0 := Hd hb0
  have HB := Hd hb1
  have HLS := Hd hown
  have HS0 := Hd hs
  clear hs hk hb0 hb1 hown
  rcases hc with ⟨g, r, rfl, hg, hll, hrl, hPM⟩ | ⟨z, p, rfl, hPM⟩
  ·
   simp only [St.err] at c3
   have hm9 : mp = ll.length := by obtain ⟨_, _, h⟩ := row_slice HLS.out; injection h
   subst hm9
   match g, hg with
   | g + 1, hg =>
   have HBXR := Hd (show X1 < wr.heap.size from block_lt HB.out)
   have HPM := Hd hPM
   have HT9 := Hd (fun w' (h : SA w' b n (.live r 0 0)) => qtake_any w' b n _ h [42])
   have HM := Hd (fun w' (h : SA w' b n ((St.live r 0 0).take [42])) (ho : w'.ownsRow (X1 + 1) 123 2 (.slice Ap ll.length cp) ll.length (varCells ll)) (hb : X1 + 1 ≤ w'.heap.size) => qmore_any w' b n _ h ll _ (X1 + 1) ho ⟨by have := HX.out; omega, hb⟩ (by omega) ((St.live r 0 0).sees [42]) 6 (by omega))
   have hpc := param_cases (n := n) (j := ll.length) (o := 0) (k := 0) (ts := r)
   have HPC := Hd hpc
   obtain ⟨q, hq⟩ : ∃ q, q = (St.live r 0 0).sees [42] := ⟨_, rfl⟩
   have HQ := Hd hq
   rw [← hq] at HT9 HM
   clear hPM hpc hq
   go_wp2_with fail
   refine Reg.wp_region_free (fun Ls vs w' => MRg wr b n X1 (.live r 0 0) ll (.slice Ap ll.length cp) (X1 + 1) sx Ls vs w') (fun _ _ => True) (A := ?AM)
    [Is (pp b), Is (.pointer (some ⟨X1, 1, none⟩)), Is (.slice Ap ll.length cp), Is (pp b), Is (.bool q), (fun _ _ => True), Is (.pointer (some ⟨X1, 1, none⟩)), (fun _ _ => True)]
    (by kernel_rfl) (by kernel_rfl) rfl ?hMA ?hMC ?hMo ?hMlast ?hMend
   case hMA => intro vs; simp only [Reg.fill, if_true, Nat.zero_add, Nat.reduceAdd, Act.put, List.setIfInBounds_toArray, List.set_cons_succ, List.set_cons_zero]; exact rfl
   case hMC => exact fun vs => ⟨(Keeps.refl _ _).drew, fun h => by simp at h, fun h => by simp at h, fun _ => block_keep HB.out (Keeps.refl [] wr).drew (by simp), fun h => by simp at h, fun _ => HS.out.keep (Keeps.refl [] wr).drew, fun h => by simp at h, fun _ => owned_keep HLS.out (Keeps.refl [] wr).drew (fun g hg hm => by simp at hm), fun h => by simp at h⟩
   case hMlast => repeat (first | exact trivial | refine ⟨fun _ _ _ h _ => h, ?_⟩)
   case hMo =>
    repeat' apply And.intro
    all_goals
     first
      | exact trivial
      | (
       intro Ls vs w' hC hLs hd ha K hK
       try simp only [Reg.Deps, Reg.at_, List.getD_cons_zero, List.getD_cons_succ, Region.binds, true_implies, Is, and_true, true_and] at hd
       have hcell := fun h7 => row_cell (hC.r0 h7) 1
       have hfree := fun h7 => row_free (hC.r0 h7) 1
       simp only [List.getElem?_toArray, List.getElem?_cons_zero, List.getElem?_cons_succ] at hcell
       first
        | (go_simp; exact hK _ _ (hC.pure (by decide)) trivial rfl)
        | skip)
    ·
     have h5 : Ls 5 = false := false_of (fun h => (hC.c5 h).1) hLs
     have hc := hcell (false_of hC.c7 h5)
     have hf := hfree (false_of hC.c7 h5)
     go_simp
     exact hK _ _ (hC.pure (by decide)) trivial rfl
    ·
     have h4 : Ls 4 = false := hLs
     have h5 : Ls 5 = false := false_of (fun h => (hC.c5 h).2) h4
     have h7 : Ls 7 = false := false_of hC.c7 h5
     go_simp
     refine (HT9.out _ (hC.s0 h4)).mono ?_
     rintro e w'' ⟨rfl, hs, hk⟩
     refine ⟨_, rfl, hK _ _ ⟨hC.k.trans hk (by simp), ?_, ?_, ?_, ?_, ?_, ?_, ?_, ?_⟩ trivial rfl⟩
     · rw [lay_ne (by decide), lay_ne (by decide)]; exact hC.c7
     · rw [lay_ne (by decide), h5]; intro h; cases h
     · rw [lay_ne (by decide)]; exact fun _ => block_keep (hC.r0 h7) hk zY
     · rw [lay_ne (by decide), h7]; intro h; cases h
     · rw [lay_eq]; intro h; cases h
     · exact fun _ _ => hs
     · exact fun _ => owned_keep (hC.o0 h5) hk (fun g hg hm => by have := (rowOf (hC.o0 h5) hg).1; have := HX.out; simp at hm <;> omega)
     · rw [lay_ne (by decide), h5]; intro h; cases h
    ·
     have h5 : Ls 5 = false := hLs
     have h7 : Ls 7 = false := false_of hC.c7 h5
     have h2 : Ls 2 = true := ha.2.1 rfl
     have h4 : Ls 4 = true := ha.2.2.1 rfl
     obtain ⟨d0, d2, d4, -⟩ := hd
     go_simp
     refine (HM.out _ (hC.s1 h4 h5) (hC.o0 h5) (by have := hC.k.size; have := HBXR.out; omega)).mono ?_
     rintro e w'' ⟨v', rfl, hsl, hk, hs, l', ho, hll', hnew⟩
     have hin : ∀ y ∈ (b :: (Value.slice Ap ll.length cp).ownBlock.toList), y = b ∨ X1 + 1 ≤ y := fun y hy => by
      rcases List.mem_cons.1 hy with h | h
      · exact .inl h
      · exact .inr (rowOf (hC.o0 h5) (by simpa using h)).1
     refine ⟨_, rfl, hK _ _ ⟨hC.k.trans hk (fun y hy _ => by rcases List.mem_cons.1 hy with h | h <;> simp [h]), ?_, ?_, ?_, ?_, ?_, ?_, ?_, ?_⟩ trivial trivial⟩
     · rw [lay_ne (by decide), h7]; intro h; cases h
     · exact fun _ => ⟨by rw [lay_ne (by decide)]; exact h2, by rw [lay_ne (by decide)]; exact h4⟩
     · rw [lay_ne (by decide)]; exact fun _ => block_keep (hC.r0 h7) hk (fun hm => by have := hin _ hm; have := HX.out; omega)
     · rw [lay_ne (by decide), h7]; intro h; cases h
     · rw [lay_ne (by decide), h4]; intro h; cases h
     · rw [lay_eq]; intro _ h; cases h
     · rw [lay_eq]; intro h; cases h
     · rw [upd_eq]; exact fun _ => ⟨hsl, hs, l', ho, hll', fun ts' o k e q1 q2 => by rw [hnew ts' o k e q1 q2, ← HQ.out]⟩
    ·
     have h7 : Ls 7 = false := hLs
     have h5 : Ls 5 = true := ha.2.1 rfl
     have h2 := (hC.c5 h5).1
     have h4 := (hC.c5 h5).2
     obtain ⟨hsl, hs, l', ho, hll', hnew⟩ := hC.o1 h5
     have hc := hcell h7
     have hf := hfree h7
     obtain ⟨A5, n5, c5, hv5⟩ := hsl
     have d6 := hd.1
     clear hd
     go_simp
     have hk : Keeps [X1] w' (w'.setCell ⟨X1, 1, none⟩ (.slice A5 n5 c5)) := (Keeps.refl [X1] _).set1 _ _
     have hrow := row_set (hC.r0 h7) 1 (.slice A5 n5 c5)
     refine hK _ _ ⟨hC.k.trans hk (fun y hy _ => by simp at hy; simp [hy]), ?_, ?_, ?_, ?_, ?_, ?_, ?_, ?_⟩ trivial trivial
     · intro _; rw [lay_ne (by decide)]; exact h5
     · exact fun _ => ⟨by rw [lay_ne (by decide)]; exact h2, by rw [lay_ne (by decide)]; exact h4⟩
     · rw [lay_eq]; intro h; cases h
     · rw [upd_ne (by decide), hv5]; exact fun _ => hrow
     · rw [lay_ne (by decide), h4]; intro h; cases h
     · rw [lay_ne (by decide), lay_ne (by decide), h5]; intro _ h; cases h
     · rw [lay_ne (by decide), h5]; intro h; cases h
     ·
      rw [upd_ne (by decide)]
      exact fun _ => ⟨⟨_, _, _, hv5⟩, hs.keepHi hk (by have := HX.out; simp; omega), l', owned_keep ho hk (fun g hg hm => by have := (rowOf ho hg).1; simp at hm; omega), hll', hnew⟩
   case hMend =>
    intro vs w5 hC hall
    obtain ⟨⟨A5, n5, c5, hv5⟩, hs, l', ho, hll', hnew⟩ := hC.o1 rfl
    have hrow := hC.r1 rfl
    rw [hv5] at hrow ho
    have hk := hC.k
    have hin : ∀ y ∈ (b :: X1 :: (Value.slice Ap ll.length cp).ownBlock.toList), y = b ∨ X1 ≤ y := fun y hy => by
     rcases List.mem_cons.1 hy with h | h
     · exact .inl h
     ·
      rcases List.mem_cons.1 h with h | h
      · exact .inr (by omega)
      · exact .inr (by have := (rowOf HLS.out (by simpa using h)).1; omega)
    have HB0 := Hd (block_keep HB0.out hk (fun hm => by have := hin _ hm; have := HX.out; omega))
    have HK := Hd (HK.out.hi hk (fun y hy => by have := hin _ hy; have := HX.out; omega))
    have HB := Hd hrow
    have HLS := Hd ho
    have hm9 : n5 = l'.length := by obtain ⟨_, _, h⟩ := row_slice ho; injection h
    subst hm9
    obtain ⟨σm, hm⟩ : ∃ x, x = dcl n 6 ll.length ((St.live r 0 0).take [42]) := ⟨_, rfl⟩
    rw [← hm] at hs
    have HS := Hd hs
    have HST := Hd (params_step HPM.out hm)
    have HNEW := Hd hnew
    have HTA := Hd (fun w' (h : SA w' b n σm) => qtake_any w' b n σm h [41])
    have HTW := Hd (fun w' (h : SA w' b n σm) => qwant_any w' b n σm h [44])
    clear hC hall hrow ho hk hin hs hm hll' hnew HT9 HM HPC HQ
    by_cases hc9 : σm.sees [41] = true
    ·
     obtain ⟨q9, p1, p2, p3, p4, r2, p5, p6⟩ := HST.out.1 hc9
     have hl9 := HNEW.out q9 0 0 p1 p2 p3
     have hPP : PP = (some l', σm.adv) := by rw [p4, hl9]
     have htk : σm.take [41] = σm.adv := by unfold St.take; rw [if_pos hc9]
     rw [hc9, htk] at HTA
     have HPP9 := Hd hPP
     have HR9 := Hd (show Root ts.length σm.adv from Root.adv (.inl ⟨r2, p5, by omega⟩))
     clear hc9 p1 p2 p3 p4 p5 p6 hl9 hPP htk HST HNEW HPM
     go_wp2_with fail
     refine (HTA.out _ HS.out).mono ?_
     rintro e v1 ⟨rfl, hs, hk⟩
     have HK := zH HK hk
     have HB := zB HB hk
     have HB0 := zB HB0 hk
     have HLS := Hd (owned_keep HLS.out hk (fun g hg hm => by have := (rowOf HLS.out hg).1; have := HX.out; simp at hm <;> omega))
     have HS := Hd hs
     clear hs hk
     have HPS := Hd (show ∀ ps, PP.1 = some ps → v1.ownsRow (X1 + 1) 123 2 (.slice A5 l'.length c5) ps.length (varCells ps) from fun ps h => by
      rw [HPP9.out] at h
      obtain rfl := Option.some.inj h
      exact HLS.out)
     have HS := Hd (show SA v1 b n PP.2 from by rw [HPP9.out]; exact HS.out)
     have HROOT0 := Hd (show Root ts.length PP.2 from by rw [HPP9.out]; exact HR9.out)
     clear HLS HS0
     have HI := Hd (fun w' (h : SA w' b n PP.2) => qis_any w' b n PP.2 h [123])
     by_cases hbr : PP.2.sees [123] = true
     ·
      rw [hbr] at HI
      obtain ⟨r0, hr0, hrl0⟩ : ∃ r, PP.2 = .live r 0 0 ∧ r.length ≤ ts.length := by
       rcases HROOT0.out with h | ⟨z, p, h⟩
       · exact h
       · rw [h] at hbr; cases hbr
      have hb9 : Px.sees r0 [123] = true := by rw [hr0] at hbr; exact hbr
      have hbrace : brace n PP.2 = .live r0.tail 1 0 := by unfold brace; rw [if_pos hbr, hr0]; rfl
      obtain ⟨t0, r1, rfl, -⟩ := sees_cons (by simp) hb9
      have HO := Hd (fun w' (h : SA w' b n (.live (t0 :: r1) 0 0)) => qopen_any w' b n _ h (fun ts' o' k' e => by injection e; omega))
      have hop : (St.live (t0 :: r1) 0 0).open n = (true, .live (t0 :: r1) 1 0) := by simp [St.open]
      rw [hop] at HO
      have HBR := Hd hbrace
      have HR0 := Hd hr0
      have HROOT := Hd (show (∃ r, brace n PP.2 = .live r 1 0 ∧ r.length ≤ ts.length) ∨ ∃ z p, brace n PP.2 = .dead z p 0 from .inl ⟨r1, hbrace, by simp at hrl0; omega⟩)
      clear hbr hb9 hbrace hop hr0 hrl0
      go_wp2_with fail
      refine (HI.out _ HS.out).mono ?_
      rintro e v2 ⟨rfl, hk⟩
      have HK := zH HK hk
      have HB := zB HB hk
      have HB0 := zB HB0 hk
      have HPS := zP HPS hk
      have HS := Hd (show SA v2 b n (.live (t0 :: r1) 0 0) from by rw [← HR0.out]; exact HS.out.keep hk)
      clear hk
      go_wp2_with fail
      refine (HO.out _ HS.out).mono ?_
      rintro e v3 ⟨rfl, hs, hk⟩
      have HK := zH HK hk
      have HB := zB HB hk
      have HB0 := zB HB0 hk
      have HPS := zP HPS hk
      have HS := Hd hs
      clear hs hk
      obtain ⟨g2, off2, L2, cap2, i2, d0, d1, hi2, hL2, q0, q1, q2, qf, hq⟩ := HS.out.prev
      have HS := Hd (show SA (v3.setCell ⟨b, 1, none⟩ (.int .i64 ((i2 : Int) + 1))) b n (brace n PP.2) from by rw [HBR.out]; exact hq)
      have hk : Keeps [b] v3 (v3.setCell ⟨b, 1, none⟩ (.int .i64 ((i2 : Int) + 1))) := (Keeps.refl [b] _).set1 _ _
      have HK := zH HK hk
      have HB := zB HB hk
      have HB0 := zB HB0 hk
      have HPS := zP HPS hk
      clear hk hq q0 q1 q2 d0
      have HBASE := Hd (show X1 < (v3.setCell ⟨b, 1, none⟩ (.int .i64 ((i2 : Int) + 1))).heap.size from block_lt HB.out)
      obtain ⟨base, hbase⟩ : ∃ x, x = (v3.setCell ⟨b, 1, none⟩ (.int .i64 ((i2 : Int) + 1))).heap.size := ⟨_, rfl⟩
      have HVB := Hd (show ∀ ps, PP.1 = some ps → ∀ g, ((.slice A5 l'.length c5) : Value).ownBlock = some g → g < base from fun ps h g hg => by
       obtain ⟨_, cur, hc⟩ := rowOf (HPS.out ps h) hg
       rw [hbase]; exact block_lt hc)
      have HBS := Hd (show X1 < base ∧ base ≤ (v3.setCell ⟨b, 1, none⟩ (.int .i64 ((i2 : Int) + 1))).heap.size from ⟨by rw [hbase]; exact HBASE.out, by omega⟩)
      clear hbase
      go_wp2_with fail
      go_loopw [10] (fun _ wr => ∃ (σ : St) (A : Option Addr) (m c : Nat) (ll : List Vr), SA wr b n σ ∧ Keeps [] w wr ∧ wr.heap[X0]? = some (.cells #[.string ⟨#[]⟩, .slice none 0 0, .slice none 0 0, .slice none 0 0] 26 (0, 0)) ∧ wr.heap[X1]? = some (.cells (fRow sx (.slice A5 l'.length c5) (.slice A m c) (.slice none 0 0)).toArray 26 (0, 0)) ∧ wr.ownsRow base 123 2 (.slice A m c) ll.length (varCells ll) ∧ (∀ ps, PP.1 = some ps → wr.ownsRow (X1 + 1) 123 2 ((.slice A5 l'.length c5)) ps.length (varCells ps)) ∧ base ≤ wr.heap.size ∧ ((∃ g r, σ = .live r 1 0 ∧ r.length + 1 ≤ g ∧ ll.length + r.length ≤ 5000 ∧ r.length ≤ ts.length ∧ LL = σ.lift n kI (vlocals g ll)) ∨ (∃ z p o, σ = .dead z p o ∧ o ≤ 1000 ∧ LL = (none, σ)))) (fun _ wr => qrank wr b)
      case atStart => exact ⟨_, none, 0, 0, [], HS.out, HK.out, HB0.out, HB.out, World.ownsRow_nil _ _ _ _, HPS.out, HBS.out.2, loop2_start HL9.out HROOT.out HFL.out HTS.out⟩
      case round =>
       obtain ⟨σ, A, m, c, ll, hs, hk, hb0, hb1, hown, hps, hbz, hc⟩ := hrel
       have HI1 := Hd (fun w' (h : SA w' b n σ) => qis_any w' b n σ h [118, 97, 114])
       have HI2 := Hd (fun w' (h : SA w' b n σ) => qis_any w' b n σ h [112, 116, 114])
       have HS := Hd hs
       have HK := Hd hk
       have HB0 := Hd hb0
       have HB := Hd hb1
       have HLS := Hd hown
       have HPS := Hd hps
       have HBZ := Hd hbz
       have HC := Hd hc
       have HS0 := Hd hs
       clear hs hk hb0 hb1 hown hps hbz hc
       cases hv : σ.sees [118, 97, 114] with
       | true =>
        have hp : σ.sees [112, 116, 114] = false := by
         rcases HC.out with ⟨g, r, rfl, _⟩ | ⟨z, p, o, rfl, _⟩
         · exact sees_other (show Px.sees r [118, 97, 114] = true from hv) (by decide)
         · cases hv
        rw [hv] at HI1
        rw [hp] at HI2
        obtain ⟨g, r, hσ, hg, hll, hrl, hLL⟩ : ∃ g r, σ = .live r 1 0 ∧ r.length + 1 ≤ g ∧ ll.length + r.length ≤ 5000 ∧ r.length ≤ ts.length ∧ LL = σ.lift n kI (vlocals g ll) := by
         rcases HC.out with h | ⟨z, p, o, rfl, _⟩
         · exact h
         · cases hv
        subst hσ
        have hsee : Px.sees r [118, 97, 114] = true ∨ Px.sees r [112, 116, 114] = true := .inl hv
        have hq : Px.sees r [112, 116, 114] = false := hp
        match g, hg with
        | g + 1, hg =>
        have hst := locals_step (n := n) (g := g) (o := 1) (k := 0) (l := ll) hsee
        rw [hq] at hst
        have HST := Hd hst
        have HLLE := Hd hLL
        have hrr : ∃ t r2, r = t :: r2 := by
         rcases hsee with h | h
         · obtain ⟨t, r2, h, _⟩ := sees_cons (by simp) h; exact ⟨t, r2, h⟩
         · obtain ⟨t, r2, h, _⟩ := sees_cons (by simp) h; exact ⟨t, r2, h⟩
        obtain ⟨t, r2, rfl⟩ := hrr
        simp only [List.tail_cons] at HST
        have hm9 : m = ll.length := by obtain ⟨_, _, h⟩ := row_slice HLS.out; injection h
        subst hm9
        have HM := Hd (fun w' (h : SA w' b n (.live r2 1 0)) (ho : w'.ownsRow base 123 2 (.slice A ll.length c) ll.length (varCells ll)) (hb : base ≤ w'.heap.size) => qmore_any w' b n _ h ll _ base ho ⟨by have := HX.out; have := HBS.out; omega, hb⟩ (by omega) false 20 (by omega))
        have HWW := Hd (fun w' (h : SA w' b n (dcl n 20 ll.length (.live r2 1 0))) => qwant_any w' b n _ h [59])
        clear hv hp hLL hsee hq hst HC
        go_wp2_with fail
        refine (cK (HI1.out _ HS.out) HK HB HB0 HS) fun v1 HK HB HB0 HS hk => ?_
        have HLS := zO HLS hk
        have HPS := zP HPS hk
        have HBZ := zZ HBZ hk
        clear hk
        go_wp2_with fail
        refine (cK (HI2.out _ HS.out) HK HB HB0 HS) fun v2 HK HB HB0 HS hk => ?_
        have HLS := zO HLS hk
        have HPS := zP HPS hk
        have HBZ := zZ HBZ hk
        clear hk
        obtain ⟨g2, off2, L2, cap2, i2, d0, d1, hi2, hL2, q0, q1, q2, qf, hq⟩ := HS.out.prev
        have HS := Hd hq
        have hk : Keeps [b] v2 (v2.setCell ⟨b, 1, none⟩ (.int .i64 ((i2 : Int) + 1))) := (Keeps.refl [b] _).set1 _ _
        have HK := zH HK hk
        have HB := zB HB hk
        have HB0 := zB HB0 hk
        have HLS := zO HLS hk
        have HPS := zP HPS hk
        have HBZ := Hd (show base ≤ (v2.setCell ⟨b, 1, none⟩ (.int .i64 ((i2 : Int) + 1))).heap.size by have := HBZ.out; have := hk.size; omega)
        clear hk hq q0 q1 q2 d0
        obtain ⟨cc2, ff2⟩ := rowi HB.out 2
        have hbx : b ≠ X1 := zX
        have hxb : X1 ≠ b := zX
        go_wp2_with fail
        refine (HM.out _ HS.out HLS.out HBZ.out).mono ?_
        rintro e v3 ⟨v', rfl, ⟨A2, m2, c2, rfl⟩, hk, hs, ll2, hown, hlen, hnew⟩
        have hin : ∀ y ∈ (b :: (Value.slice A ll.length c).ownBlock.toList), y = b ∨ base ≤ y := fun y hy => by
         rcases List.mem_cons.1 hy with h | h
         · exact .inl h
         · exact .inr (rowOf HLS.out (by simpa using h)).1
        have HB := zj HB hk
        have HB0 := zj HB0 hk
        have HPS := Hd (fun ps h => owned_keep (HPS.out ps h) hk (fun g hg hm => by have := hin _ hm; have := (rowOf (HPS.out ps h) hg).1; have := HVB.out ps h g hg; have := HX.out; omega))
        have HK := zk HK hk
        have HBZ := zZ HBZ hk
        have HS := Hd hs
        have HLS := Hd hown
        have HNEW := Hd hnew
        have HLEN := Hd hlen
        have hm9 : m2 = ll2.length := by obtain ⟨_, _, h⟩ := row_slice hown; injection h
        subst hm9
        clear hk hs hown hnew hlen hin d1 qf cc2 ff2
        obtain ⟨cc2, ff2⟩ := rowi HB.out 2
        have hk : Keeps [X1] v3 (v3.setCell ⟨X1, 2, none⟩ (.slice A2 ll2.length c2)) := (Keeps.refl [X1] _).set1 _ _
        have HB := Hd (show (v3.setCell ⟨X1, 2, none⟩ (.slice A2 ll2.length c2)).heap[X1]? = some (.cells (fRow sx (.slice A5 l'.length c5) (.slice A2 ll2.length c2) (.slice none 0 0)).toArray 26 (0, 0)) from row_set HB.out 2 _)
        have HB0 := zB HB0 hk
        have HK := zH HK hk
        have HS := zI HS hk
        have HLS := zO HLS hk
        have HPS := zP HPS hk
        clear hk
        have HBZ := Hd (show base ≤ (v3.setCell ⟨X1, 2, none⟩ (.slice A2 ll2.length c2)).heap.size by have := HBZ.out; first | omega | (simp; omega))
        go_wp2_with fail
        refine (HWW.out _ HS.out).mono ?_
        rintro e v4 ⟨rfl, hs, hk⟩
        have HK := zH HK hk
        have HB := zB HB hk
        have HB0 := zB HB0 hk
        have HLS := zO HLS hk
        have HPS := zP HPS hk
        have HBZ := zZ HBZ hk
        have HS := Hd hs
        clear hs hk cc2 ff2
        go_wp2
        go_roundw
        ·
         refine ⟨_, A2, _, c2, ll2, HS.out, HK.out, HB0.out, HB.out, HLS.out, HPS.out, HBZ.out, ?_⟩
         rcases HST.out with ⟨r3, q1, q2, q3, q4, q5⟩ | ⟨z, p, q4, q5⟩
         ·
          have hl2 := HNEW.out r2 1 0 rfl q2 q3
          subst hl2
          exact .inl ⟨g, r3, q4, by simp at q1 hg; omega, by simp at q1 hll ⊢; omega, by simp at q1 hrl; omega, by rw [q4]; exact HLLE.out.trans q5⟩
         · exact .inr ⟨z, p, 1, q4, by omega, by rw [q4]; exact HLLE.out.trans q5⟩
        ·
         rw [HS.out.rank, HS0.out.rank]
         rcases HST.out with ⟨r3, q1, q2, q3, q4, q5⟩ | ⟨z, p, q4, q5⟩
         · rw [q4]; simp only [St.rank]; omega
         · rw [q4]; show 0 < 1 + _; omega
       | false =>
        cases hp : σ.sees [112, 116, 114] with
        | true =>
         rw [hv] at HI1
         rw [hp] at HI2
         obtain ⟨g, r, hσ, hg, hll, hrl, hLL⟩ : ∃ g r, σ = .live r 1 0 ∧ r.length + 1 ≤ g ∧ ll.length + r.length ≤ 5000 ∧ r.length ≤ ts.length ∧ LL = σ.lift n kI (vlocals g ll) := by
          rcases HC.out with h | ⟨z, p, o, rfl, _⟩
          · exact h
          · cases hp
         subst hσ
         have hsee : Px.sees r [118, 97, 114] = true ∨ Px.sees r [112, 116, 114] = true := .inr hp
         have hq : Px.sees r [112, 116, 114] = true := hp
         match g, hg with
         | g + 1, hg =>
         have hst := locals_step (n := n) (g := g) (o := 1) (k := 0) (l := ll) hsee
         rw [hq] at hst
         have HST := Hd hst
         have HLLE := Hd hLL
         have hrr : ∃ t r2, r = t :: r2 := by
          rcases hsee with h | h
          · obtain ⟨t, r2, h, _⟩ := sees_cons (by simp) h; exact ⟨t, r2, h⟩
          · obtain ⟨t, r2, h, _⟩ := sees_cons (by simp) h; exact ⟨t, r2, h⟩
         obtain ⟨t, r2, rfl⟩ := hrr
         simp only [List.tail_cons] at HST
         have hm9 : m = ll.length := by obtain ⟨_, _, h⟩ := row_slice HLS.out; injection h
         subst hm9
         have HM := Hd (fun w' (h : SA w' b n (.live r2 1 0)) (ho : w'.ownsRow base 123 2 (.slice A ll.length c) ll.length (varCells ll)) (hb : base ≤ w'.heap.size) => qmore_any w' b n _ h ll _ base ho ⟨by have := HX.out; have := HBS.out; omega, hb⟩ (by omega) true 20 (by omega))
         have HWW := Hd (fun w' (h : SA w' b n (dcl n 20 ll.length (.live r2 1 0))) => qwant_any w' b n _ h [59])
         clear hv hp hLL hsee hq hst HC
         go_wp2_with fail
         refine (cK (HI1.out _ HS.out) HK HB HB0 HS) fun v1 HK HB HB0 HS hk => ?_
         have HLS := zO HLS hk
         have HPS := zP HPS hk
         have HBZ := zZ HBZ hk
         clear hk
         go_wp2_with fail
         refine (cK (HI2.out _ HS.out) HK HB HB0 HS) fun v2 HK HB HB0 HS hk => ?_
         have HLS := zO HLS hk
         have HPS := zP HPS hk
         have HBZ := zZ HBZ hk
         clear hk
         go_wp2_with fail
         refine (cK (HI2.out _ HS.out) HK HB HB0 HS) fun v3 HK HB HB0 HS hk => ?_
         have HLS := zO HLS hk
         have HPS := zP HPS hk
         have HBZ := zZ HBZ hk
         clear hk
         obtain ⟨g2, off2, L2, cap2, i2, d0, d1, hi2, hL2, q0, q1, q2, qf, hq⟩ := HS.out.prev
         have HS := Hd hq
         have hk : Keeps [b] v3 (v3.setCell ⟨b, 1, none⟩ (.int .i64 ((i2 : Int) + 1))) := (Keeps.refl [b] _).set1 _ _
         have HK := zH HK hk
         have HB := zB HB hk
         have HB0 := zB HB0 hk
         have HLS := zO HLS hk
         have HPS := zP HPS hk
         have HBZ := Hd (show base ≤ (v3.setCell ⟨b, 1, none⟩ (.int .i64 ((i2 : Int) + 1))).heap.size by have := HBZ.out; have := hk.size; omega)
         clear hk hq q0 q1 q2 d0
         obtain ⟨cc2, ff2⟩ := rowi HB.out 2
         have hbx : b ≠ X1 := zX
         have hxb : X1 ≠ b := zX
         go_wp2_with fail
         refine (HM.out _ HS.out HLS.out HBZ.out).mono ?_
         rintro e v4 ⟨v', rfl, ⟨A2, m2, c2, rfl⟩, hk, hs, ll2, hown, hlen, hnew⟩
         have hin : ∀ y ∈ (b :: (Value.slice A ll.length c).ownBlock.toList), y = b ∨ base ≤ y := fun y hy => by
          rcases List.mem_cons.1 hy with h | h
          · exact .inl h
          · exact .inr (rowOf HLS.out (by simpa using h)).1
         have HB := zj HB hk
         have HB0 := zj HB0 hk
         have HPS := Hd (fun ps h => owned_keep (HPS.out ps h) hk (fun g hg hm => by have := hin _ hm; have := (rowOf (HPS.out ps h) hg).1; have := HVB.out ps h g hg; have := HX.out; omega))
         have HK := zk HK hk
         have HBZ := zZ HBZ hk
         have HS := Hd hs
         have HLS := Hd hown
         have HNEW := Hd hnew
         have HLEN := Hd hlen
         have hm9 : m2 = ll2.length := by obtain ⟨_, _, h⟩ := row_slice hown; injection h
         subst hm9
         clear hk hs hown hnew hlen hin d1 qf cc2 ff2
         obtain ⟨cc2, ff2⟩ := rowi HB.out 2
         have hk : Keeps [X1] v4 (v4.setCell ⟨X1, 2, none⟩ (.slice A2 ll2.length c2)) := (Keeps.refl [X1] _).set1 _ _
         have HB := Hd (show (v4.setCell ⟨X1, 2, none⟩ (.slice A2 ll2.length c2)).heap[X1]? = some (.cells (fRow sx (.slice A5 l'.length c5) (.slice A2 ll2.length c2) (.slice none 0 0)).toArray 26 (0, 0)) from row_set HB.out 2 _)
         have HB0 := zB HB0 hk
         have HK := zH HK hk
         have HS := zI HS hk
         have HLS := zO HLS hk
         have HPS := zP HPS hk
         clear hk
         have HBZ := Hd (show base ≤ (v4.setCell ⟨X1, 2, none⟩ (.slice A2 ll2.length c2)).heap.size by have := HBZ.out; first | omega | (simp; omega))
         go_wp2_with fail
         refine (HWW.out _ HS.out).mono ?_
         rintro e v5 ⟨rfl, hs, hk⟩
         have HK := zH HK hk
         have HB := zB HB hk
         have HB0 := zB HB0 hk
         have HLS := zO HLS hk
         have HPS := zP HPS hk
         have HBZ := zZ HBZ hk
         have HS := Hd hs
         clear hs hk cc2 ff2
         go_wp2
         go_roundw
         ·
          refine ⟨_, A2, _, c2, ll2, HS.out, HK.out, HB0.out, HB.out, HLS.out, HPS.out, HBZ.out, ?_⟩
          rcases HST.out with ⟨r3, q1, q2, q3, q4, q5⟩ | ⟨z, p, q4, q5⟩
          ·
           have hl2 := HNEW.out r2 1 0 rfl q2 q3
           subst hl2
           exact .inl ⟨g, r3, q4, by simp at q1 hg; omega, by simp at q1 hll ⊢; omega, by simp at q1 hrl; omega, by rw [q4]; exact HLLE.out.trans q5⟩
          · exact .inr ⟨z, p, 1, q4, by omega, by rw [q4]; exact HLLE.out.trans q5⟩
         ·
          rw [HS.out.rank, HS0.out.rank]
          rcases HST.out with ⟨r3, q1, q2, q3, q4, q5⟩ | ⟨z, p, q4, q5⟩
          · rw [q4]; simp only [St.rank]; omega
          · rw [q4]; show 0 < 1 + _; omega
        | false =>
         rw [hv] at HI1
         rw [hp] at HI2
         have hLL : LL.2 = σ ∧ (∀ q, LL.1 = some q → q = ll) ∧ LL.2.fits f 9 ∧ LL.2.few := by
          rcases HC.out with ⟨g, r, rfl, hg, hll, hrl, hLL⟩ | ⟨z, p, o, rfl, ho, hLL⟩
          ·
           match g, hg with
           | g + 1, _ =>
           rw [hLL, locals_done hv hp]
           exact ⟨rfl, fun q h => (Option.some.inj h).symm, ⟨by omega, by have := HFL.out; omega⟩, Nat.zero_le _⟩
          · rw [hLL]; exact ⟨rfl, (fun q h => by cases h), ho, trivial⟩
         have HFIT := Hd hLL.2.2.1
         have HFEW := Hd hLL.2.2.2
         have HS := Hd (show SA wr b n LL.2 from by rw [hLL.1]; exact HS.out)
         have HLS := Hd (show ∀ q, LL.1 = some q → wr.ownsRow base 123 2 (.slice A m c) q.length (varCells q) from fun q h => by rw [hLL.2.1 q h]; exact HLS.out)
         have HI1 := Hd (fun w' (h : SA w' b n LL.2) => HI1.out w' (by rw [← hLL.1]; exact h))
         have HI2 := Hd (fun w' (h : SA w' b n LL.2) => HI2.out w' (by rw [← hLL.1]; exact h))
         clear hv hp hLL HC HS0
         go_wp2_with fail
         refine (cK (HI1.out _ HS.out) HK HB HB0 HS) fun v1 HK HB HB0 HS hk => ?_
         have HLS := zQ HLS hk
         have HPS := zP HPS hk
         clear hk
         go_wp2_with fail
         refine (cK (HI2.out _ HS.out) HK HB HB0 HS) fun v2 HK HB HB0 HS hk => ?_
         have HLS := zQ HLS hk
         have HPS := zP HPS hk
         clear hk
         have hq9 := (qsc f).stmts v2 b n LL.2 X1 HS.out HFIT.out HFEW.out zX (block_lt HB.out)
         rw [← HB9.out] at hq9
         have HQ9 := Hd hq9
         clear hq9
         go_wp2_with fail
         refine (HQ9.out).mono ?_
         rintro e v3 ⟨v, rfl, ⟨A9, n9, c9, rfl⟩, hk, hs, ha⟩
         have HK := zH HK hk
         have HB := zB HB hk
         have HB0 := zB HB0 hk
         have HLS := zQ HLS hk
         have HPS := zP HPS hk
         have HA := Hd ha
         have HS := Hd hs
         clear hk hs ha
         obtain ⟨cc3, ff3⟩ := rowi HB.out 3
         have hk : Keeps [X1] v3 (v3.setCell ⟨X1, 3, none⟩ (.slice A9 n9 c9)) := (Keeps.refl [X1] _).set1 _ _
         have HB := Hd (show (v3.setCell ⟨X1, 3, none⟩ (.slice A9 n9 c9)).heap[X1]? = some (.cells (fRow sx (.slice A5 l'.length c5) (.slice A m c) (.slice A9 n9 c9)).toArray 26 (0, 0)) from row_set HB.out 3 _)
         have HB0 := zB HB0 hk
         have HK := zH HK hk
         have HS := zI HS hk
         have HLS := zQ HLS hk
         have HPS := zP HPS hk
         have HA := Hd (fun q h => SsAt.keepS2 (HA.out q h) hk zY)
         clear hk
         obtain ⟨σ7, h7⟩ : ∃ x, x = BB.2 := ⟨_, rfl⟩
         rw [← h7] at HS
         have H7 := Hd h7
         clear h7
         cases σ7 with
         | dead z9 p9 o9 =>
          have c3 : (v3.setCell ⟨X1, 3, none⟩ (.slice A9 n9 c9)).cell? ⟨b, 3, none⟩ = some (.int .i64 (z9 : Int)) := HS.out.flag
          have hz : ((z9 : Int) == 0) = false := by have := HS.out.1; simp; omega
          have hz1 : ((z9 : Int) != 0) = true := by have := HS.out.1; simp; omega
          have hz' : decide ((z9 : Int) = 0) = false := by have := HS.out.1; simp; omega
          have c4 := SA.deadAt HS.out
          go_wp2
          go_region
          obtain ⟨c00, f00, c01, f01, c02, f02, c03, f03⟩ := row4 HB0.out
          have hne1 : X0 ≠ X1 := zX
          have hne2 : X1 ≠ X0 := zX
          have hne3 : X0 ≠ b := zX
          have hne4 : b ≠ X0 := zX
          go_wp2
          go_region
          go_wp2
          refine bodyPost_ret (v := .tuple #[.agg #[.string ⟨#[]⟩, .slice none 0 0, .slice none 0 0, .slice none 0 0], .int .i64 (p9 : Int), .int .i64 (z9 : Int)]) (by simp [results, Tryz.results14, go_sem, c00, c01, c02, c03]) rfl ?_
          refine setsEnd (S := [X0]) (w := (v3.setCell ⟨X1, 3, none⟩ (.slice A9 n9 c9))) ?_ ?_
          · exact zW
          ·
           intro W9 hk
           rw [← H7.out]
           exact ⟨_, rfl, HK.out.hi hk zY, rfl⟩
         | live t9 o9 k9 =>
          have c3 : (v3.setCell ⟨X1, 3, none⟩ (.slice A9 n9 c9)).cell? ⟨b, 3, none⟩ = some (.int .i64 ((0 : Nat) : Int)) := HS.out.flag
          match t9, HS, H7 with
          | [], HS, H7 =>
           obtain ⟨A8, L8, cap8, c8, d8⟩ := HS.out.empty
           have hlt : decide ((L8 : Int) < (L8 : Int)) = false := by simp
           go_wp2
           go_region
           obtain ⟨c00, f00, c01, f01, c02, f02, c03, f03⟩ := row4 HB0.out
           have hne1 : X0 ≠ X1 := zX
           have hne2 : X1 ≠ X0 := zX
           have hne3 : X0 ≠ b := zX
           have hne4 : b ≠ X0 := zX
           obtain ⟨cc0, ff0, cc1, ff1, cc2, ff2, cc3, ff3⟩ := row4 HB.out
           go_wp2
           refine bodyPost_ret (v := .tuple #[.agg (fRow sx (.slice A5 l'.length c5) (.slice A m c) (.slice A9 n9 c9)).toArray, .int .i64 0, .int .i64 0]) (by simp [results, Tryz.results14, go_sem, cc0, cc1, cc2, cc3, c00, c01, c02, c03]) rfl ?_
           refine setsEnd (S := [X0]) (w := (v3.setCell ⟨X1, 3, none⟩ (.slice A9 n9 c9))) ?_ ?_
           · exact zW
           ·
            intro W9 hk
            rw [← H7.out]
            exact fn_live HX.out HSX.out HN.out H39.out HP9.out HL9.out HB9.out H7.out HPS.out HLS.out HA.out HK.out hk HBS.out.1
          | t :: r, HS, H7 =>
           obtain ⟨g8, off8, L8, cap8, i8, c8, d8, hi8, hL8, -⟩ := HS.out.anyTwo
           have hlt : decide ((i8 : Int) < (L8 : Int)) = true := by simp; omega
           have hlt' : decide (i8 < L8) = true := by simp; omega
           have HF9 := Hd (fun w' (h : SA w' b n (.live (t :: r) o9 k9)) => qfail_any w' b n _ h 51 (by omega) (by omega))
           go_wp2
           go_region
           go_wp2_with fail
           refine (HF9.out _ (HS.out.drewN _)).mono ?_
           rintro e w7 ⟨rfl, hs, hk⟩
           have HB0 := Hd (block_keep HB0.out (((Keeps.refl _ _).drewN _).trans hk (fun _ h _ => h)) zY)
           have HK := Hd ((HK.out.drewN _).hi hk zY)
           have HS := Hd hs
           have hs : SA w7 b n (.dead 51 t.at_ o9) := hs
           have c3 : w7.cell? ⟨b, 3, none⟩ = some (.int .i64 ((51 : Nat) : Int)) := hs.flag
           have c4 := SA.deadAt hs
           obtain ⟨p9, hp9⟩ : ∃ x, x = t.at_ := ⟨_, rfl⟩
           rw [← hp9] at c4
           obtain ⟨z9, hz9⟩ : ∃ x : Nat, x = 51 := ⟨_, rfl⟩
           rw [← hz9] at c3
           have hz1 : ((z9 : Int) != 0) = true := by simp; omega
           have hz' : decide ((z9 : Int) = 0) = false := by simp; omega
           have HZ9 := Hd (And.intro hp9 hz9)
           clear hk hs c8 d8 hlt hlt' hp9 hz9
           obtain ⟨c00, f00, c01, f01, c02, f02, c03, f03⟩ := row4 HB0.out
           have hne1 : X0 ≠ X1 := zX
           have hne2 : X1 ≠ X0 := zX
           have hne3 : X0 ≠ b := zX
           have hne4 : b ≠ X0 := zX
           go_wp2
           go_region
           go_wp2
           refine bodyPost_ret (v := .tuple #[.agg #[.string ⟨#[]⟩, .slice none 0 0, .slice none 0 0, .slice none 0 0], .int .i64 (p9 : Int), .int .i64 (z9 : Int)]) (by simp [results, Tryz.results14, go_sem, c00, c01, c02, c03]) rfl ?_
           refine setsEnd (S := [X0]) (w := w7) ?_ ?_
           · exact zW
           ·
            intro W9 hk
            rw [← H7.out, HZ9.out.1, HZ9.out.2]
            exact ⟨_, rfl, HK.out.hi hk zY, rfl⟩
     ·
      have hn9 : PP.2.sees [123] = false := by simpa using hbr
      rw [hn9] at HI
      have hbrace : brace n PP.2 = PP.2.fail n 51 := by unfold brace; rw [if_neg hbr]
      have HF9 := Hd (fun w' (h : SA w' b n PP.2) => qfail_any w' b n PP.2 h 51 (by omega) (by omega))
      have HBR := Hd hbrace
      have HROOT := Hd (show (∃ r, brace n PP.2 = .live r 1 0 ∧ r.length ≤ ts.length) ∨ ∃ z p, brace n PP.2 = .dead z p 0 from .inr (by
       rw [hbrace]
       rcases HROOT0.out with ⟨r, h, _⟩ | ⟨z, p, h⟩
       · rw [h]; exact ⟨_, _, rfl⟩
       · rw [h]; exact ⟨_, _, rfl⟩))
      clear hbr hn9 hbrace
      go_wp2_with fail
      refine (cK (HI.out _ HS.out) HK HB HB0 HS) fun v2 HK HB HB0 HS hk => ?_
      have HPS := zP HPS hk
      clear hk
      go_wp2_with fail
      refine (HF9.out _ HS.out).mono ?_
      rintro e v3 ⟨rfl, hs, hk⟩
      have HK := zH HK hk
      have HB := zB HB hk
      have HB0 := zB HB0 hk
      have HPS := zP HPS hk
      have HS := Hd (show SA v3 b n (brace n PP.2) from by rw [HBR.out]; exact hs)
      clear hs hk
      have HBASE := Hd (show X1 < v3.heap.size from block_lt HB.out)
      obtain ⟨base, hbase⟩ : ∃ x, x = v3.heap.size := ⟨_, rfl⟩
      have HVB := Hd (show ∀ ps, PP.1 = some ps → ∀ g, ((.slice A5 l'.length c5) : Value).ownBlock = some g → g < base from fun ps h g hg => by
       obtain ⟨_, cur, hc⟩ := rowOf (HPS.out ps h) hg
       rw [hbase]; exact block_lt hc)
      have HBS := Hd (show X1 < base ∧ base ≤ v3.heap.size from ⟨by rw [hbase]; exact HBASE.out, by omega⟩)
      clear hbase
      go_wp2_with fail
      go_loopw [10] (fun _ wr => ∃ (σ : St) (A : Option Addr) (m c : Nat) (ll : List Vr), SA wr b n σ ∧ Keeps [] w wr ∧ wr.heap[X0]? = some (.cells #[.string ⟨#[]⟩, .slice none 0 0, .slice none 0 0, .slice none 0 0] 26 (0, 0)) ∧ wr.heap[X1]? = some (.cells (fRow sx (.slice A5 l'.length c5) (.slice A m c) (.slice none 0 0)).toArray 26 (0, 0)) ∧ wr.ownsRow base 123 2 (.slice A m c) ll.length (varCells ll) ∧ (∀ ps, PP.1 = some ps → wr.ownsRow (X1 + 1) 123 2 ((.slice A5 l'.length c5)) ps.length (varCells ps)) ∧ base ≤ wr.heap.size ∧ ((∃ g r, σ = .live r 1 0 ∧ r.length + 1 ≤ g ∧ ll.length + r.length ≤ 5000 ∧ r.length ≤ ts.length ∧ LL = σ.lift n kI (vlocals g ll)) ∨ (∃ z p o, σ = .dead z p o ∧ o ≤ 1000 ∧ LL = (none, σ)))) (fun _ wr => qrank wr b)
      case atStart => exact ⟨_, none, 0, 0, [], HS.out, HK.out, HB0.out, HB.out, World.ownsRow_nil _ _ _ _, HPS.out, HBS.out.2, loop2_start HL9.out HROOT.out HFL.out HTS.out⟩
      case round =>
       obtain ⟨σ, A, m, c, ll, hs, hk, hb0, hb1, hown, hps, hbz, hc⟩ := hrel
       have HI1 := Hd (fun w' (h : SA w' b n σ) => qis_any w' b n σ h [118, 97, 114])
       have HI2 := Hd (fun w' (h : SA w' b n σ) => qis_any w' b n σ h [112, 116, 114])
       have HS := Hd hs
       have HK := Hd hk
       have HB0 := Hd hb0
       have HB := Hd hb1
       have HLS := Hd hown
       have HPS := Hd hps
       have HBZ := Hd hbz
       have HC := Hd hc
       have HS0 := Hd hs
       clear hs hk hb0 hb1 hown hps hbz hc
       cases hv : σ.sees [118, 97, 114] with
       | true =>
        have hp : σ.sees [112, 116, 114] = false := by
         rcases HC.out with ⟨g, r, rfl, _⟩ | ⟨z, p, o, rfl, _⟩
         · exact sees_other (show Px.sees r [118, 97, 114] = true from hv) (by decide)
         · cases hv
        rw [hv] at HI1
        rw [hp] at HI2
        obtain ⟨g, r, hσ, hg, hll, hrl, hLL⟩ : ∃ g r, σ = .live r 1 0 ∧ r.length + 1 ≤ g ∧ ll.length + r.length ≤ 5000 ∧ r.length ≤ ts.length ∧ LL = σ.lift n kI (vlocals g ll) := by
         rcases HC.out with h | ⟨z, p, o, rfl, _⟩
         · exact h
         · cases hv
        subst hσ
        have hsee : Px.sees r [118, 97, 114] = true ∨ Px.sees r [112, 116, 114] = true := .inl hv
        have hq : Px.sees r [112, 116, 114] = false := hp
        match g, hg with
        | g + 1, hg =>
        have hst := locals_step (n := n) (g := g) (o := 1) (k := 0) (l := ll) hsee
        rw [hq] at hst
        have HST := Hd hst
        have HLLE := Hd hLL
        have hrr : ∃ t r2, r = t :: r2 := by
         rcases hsee with h | h
         · obtain ⟨t, r2, h, _⟩ := sees_cons (by simp) h; exact ⟨t, r2, h⟩
         · obtain ⟨t, r2, h, _⟩ := sees_cons (by simp) h; exact ⟨t, r2, h⟩
        obtain ⟨t, r2, rfl⟩ := hrr
        simp only [List.tail_cons] at HST
        have hm9 : m = ll.length := by obtain ⟨_, _, h⟩ := row_slice HLS.out; injection h
        subst hm9
        have HM := Hd (fun w' (h : SA w' b n (.live r2 1 0)) (ho : w'.ownsRow base 123 2 (.slice A ll.length c) ll.length (varCells ll)) (hb : base ≤ w'.heap.size) => qmore_any w' b n _ h ll _ base ho ⟨by have := HX.out; have := HBS.out; omega, hb⟩ (by omega) false 20 (by omega))
        have HWW := Hd (fun w' (h : SA w' b n (dcl n 20 ll.length (.live r2 1 0))) => qwant_any w' b n _ h [59])
        clear hv hp hLL hsee hq hst HC
        go_wp2_with fail
        refine (cK (HI1.out _ HS.out) HK HB HB0 HS) fun v1 HK HB HB0 HS hk => ?_
        have HLS := zO HLS hk
        have HPS := zP HPS hk
        have HBZ := zZ HBZ hk
        clear hk
        go_wp2_with fail
        refine (cK (HI2.out _ HS.out) HK HB HB0 HS) fun v2 HK HB HB0 HS hk => ?_
        have HLS := zO HLS hk
        have HPS := zP HPS hk
        have HBZ := zZ HBZ hk
        clear hk
        obtain ⟨g2, off2, L2, cap2, i2, d0, d1, hi2, hL2, q0, q1, q2, qf, hq⟩ := HS.out.prev
        have HS := Hd hq
        have hk : Keeps [b] v2 (v2.setCell ⟨b, 1, none⟩ (.int .i64 ((i2 : Int) + 1))) := (Keeps.refl [b] _).set1 _ _
        have HK := zH HK hk
        have HB := zB HB hk
        have HB0 := zB HB0 hk
        have HLS := zO HLS hk
        have HPS := zP HPS hk
        have HBZ := Hd (show base ≤ (v2.setCell ⟨b, 1, none⟩ (.int .i64 ((i2 : Int) + 1))).heap.size by have := HBZ.out; have := hk.size; omega)
        clear hk hq q0 q1 q2 d0
        obtain ⟨cc2, ff2⟩ := rowi HB.out 2
        have hbx : b ≠ X1 := zX
        have hxb : X1 ≠ b := zX
        go_wp2_with fail
        refine (HM.out _ HS.out HLS.out HBZ.out).mono ?_
        rintro e v3 ⟨v', rfl, ⟨A2, m2, c2, rfl⟩, hk, hs, ll2, hown, hlen, hnew⟩
        have hin : ∀ y ∈ (b :: (Value.slice A ll.length c).ownBlock.toList), y = b ∨ base ≤ y := fun y hy => by
         rcases List.mem_cons.1 hy with h | h
         · exact .inl h
         · exact .inr (rowOf HLS.out (by simpa using h)).1
        have HB := zj HB hk
        have HB0 := zj HB0 hk
        have HPS := Hd (fun ps h => owned_keep (HPS.out ps h) hk (fun g hg hm => by have := hin _ hm; have := (rowOf (HPS.out ps h) hg).1; have := HVB.out ps h g hg; have := HX.out; omega))
        have HK := zk HK hk
        have HBZ := zZ HBZ hk
        have HS := Hd hs
        have HLS := Hd hown
        have HNEW := Hd hnew
        have HLEN := Hd hlen
        have hm9 : m2 = ll2.length := by obtain ⟨_, _, h⟩ := row_slice hown; injection h
        subst hm9
        clear hk hs hown hnew hlen hin d1 qf cc2 ff2
        obtain ⟨cc2, ff2⟩ := rowi HB.out 2
        have hk : Keeps [X1] v3 (v3.setCell ⟨X1, 2, none⟩ (.slice A2 ll2.length c2)) := (Keeps.refl [X1] _).set1 _ _
        have HB := Hd (show (v3.setCell ⟨X1, 2, none⟩ (.slice A2 ll2.length c2)).heap[X1]? = some (.cells (fRow sx (.slice A5 l'.length c5) (.slice A2 ll2.length c2) (.slice none 0 0)).toArray 26 (0, 0)) from row_set HB.out 2 _)
        have HB0 := zB HB0 hk
        have HK := zH HK hk
        have HS := zI HS hk
        have HLS := zO HLS hk
        have HPS := zP HPS hk
        clear hk
        have HBZ := Hd (show base ≤ (v3.setCell ⟨X1, 2, none⟩ (.slice A2 ll2.length c2)).heap.size by have := HBZ.out; first | omega | (simp; omega))
        go_wp2_with fail
        refine (HWW.out _ HS.out).mono ?_
        rintro e v4 ⟨rfl, hs, hk⟩
        have HK := zH HK hk
        have HB := zB HB hk
        have HB0 := zB HB0 hk
        have HLS := zO HLS hk
        have HPS := zP HPS hk
        have HBZ := zZ HBZ hk
        have HS := Hd hs
        clear hs hk cc2 ff2
        go_wp2
        go_roundw
        ·
         refine ⟨_, A2, _, c2, ll2, HS.out, HK.out, HB0.out, HB.out, HLS.out, HPS.out, HBZ.out, ?_⟩
         rcases HST.out with ⟨r3, q1, q2, q3, q4, q5⟩ | ⟨z, p, q4, q5⟩
         ·
          have hl2 := HNEW.out r2 1 0 rfl q2 q3
          subst hl2
          exact .inl ⟨g, r3, q4, by simp at q1 hg; omega, by simp at q1 hll ⊢; omega, by simp at q1 hrl; omega, by rw [q4]; exact HLLE.out.trans q5⟩
         · exact .inr ⟨z, p, 1, q4, by omega, by rw [q4]; exact HLLE.out.trans q5⟩
        ·
         rw [HS.out.rank, HS0.out.rank]
         rcases HST.out with ⟨r3, q1, q2, q3, q4, q5⟩ | ⟨z, p, q4, q5⟩
         · rw [q4]; simp only [St.rank]; omega
         · rw [q4]; show 0 < 1 + _; omega
       | false =>
        cases hp : σ.sees [112, 116, 114] with
        | true =>
         rw [hv] at HI1
         rw [hp] at HI2
         obtain ⟨g, r, hσ, hg, hll, hrl, hLL⟩ : ∃ g r, σ = .live r 1 0 ∧ r.length + 1 ≤ g ∧ ll.length + r.length ≤ 5000 ∧ r.length ≤ ts.length ∧ LL = σ.lift n kI (vlocals g ll) := by
          rcases HC.out with h | ⟨z, p, o, rfl, _⟩
          · exact h
          · cases hp
         subst hσ
         have hsee : Px.sees r [118, 97, 114] = true ∨ Px.sees r [112, 116, 114] = true := .inr hp
         have hq : Px.sees r [112, 116, 114] = true := hp
         match g, hg with
         | g + 1, hg =>
         have hst := locals_step (n := n) (g := g) (o := 1) (k := 0) (l := ll) hsee
         rw [hq] at hst
         have HST := Hd hst
         have HLLE := Hd hLL
         have hrr : ∃ t r2, r = t :: r2 := by
          rcases hsee with h | h
          · obtain ⟨t, r2, h, _⟩ := sees_cons (by simp) h; exact ⟨t, r2, h⟩
          · obtain ⟨t, r2, h, _⟩ := sees_cons (by simp) h; exact ⟨t, r2, h⟩
         obtain ⟨t, r2, rfl⟩ := hrr
         simp only [List.tail_cons] at HST
         have hm9 : m = ll.length := by obtain ⟨_, _, h⟩ := row_slice HLS.out; injection h
         subst hm9
         have HM := Hd (fun w' (h : SA w' b n (.live r2 1 0)) (ho : w'.ownsRow base 123 2 (.slice A ll.length c) ll.length (varCells ll)) (hb : base ≤ w'.heap.size) => qmore_any w' b n _ h ll _ base ho ⟨by have := HX.out; have := HBS.out; omega, hb⟩ (by omega) true 20 (by omega))
         have HWW := Hd (fun w' (h : SA w' b n (dcl n 20 ll.length (.live r2 1 0))) => qwant_any w' b n _ h [59])
         clear hv hp hLL hsee hq hst HC
         go_wp2_with fail
         refine (cK (HI1.out _ HS.out) HK HB HB0 HS) fun v1 HK HB HB0 HS hk => ?_
         have HLS := zO HLS hk
         have HPS := zP HPS hk
         have HBZ := zZ HBZ hk
         clear hk
         go_wp2_with fail
         refine (cK (HI2.out _ HS.out) HK HB HB0 HS) fun v2 HK HB HB0 HS hk => ?_
         have HLS := zO HLS hk
         have HPS := zP HPS hk
         have HBZ := zZ HBZ hk
         clear hk
         go_wp2_with fail
         refine (cK (HI2.out _ HS.out) HK HB HB0 HS) fun v3 HK HB HB0 HS hk => ?_
         have HLS := zO HLS hk
         have HPS := zP HPS hk
         have HBZ := zZ HBZ hk
         clear hk
         obtain ⟨g2, off2, L2, cap2, i2, d0, d1, hi2, hL2, q0, q1, q2, qf, hq⟩ := HS.out.prev
         have HS := Hd hq
         have hk : Keeps [b] v3 (v3.setCell ⟨b, 1, none⟩ (.int .i64 ((i2 : Int) + 1))) := (Keeps.refl [b] _).set1 _ _
         have HK := zH HK hk
         have HB := zB HB hk
         have HB0 := zB HB0 hk
         have HLS := zO HLS hk
         have HPS := zP HPS hk
         have HBZ := Hd (show base ≤ (v3.setCell ⟨b, 1, none⟩ (.int .i64 ((i2 : Int) + 1))).heap.size by have := HBZ.out; have := hk.size; omega)
         clear hk hq q0 q1 q2 d0
         obtain ⟨cc2, ff2⟩ := rowi HB.out 2
         have hbx : b ≠ X1 := zX
         have hxb : X1 ≠ b := zX
         go_wp2_with fail
         refine (HM.out _ HS.out HLS.out HBZ.out).mono ?_
         rintro e v4 ⟨v', rfl, ⟨A2, m2, c2, rfl⟩, hk, hs, ll2, hown, hlen, hnew⟩
         have hin : ∀ y ∈ (b :: (Value.slice A ll.length c).ownBlock.toList), y = b ∨ base ≤ y := fun y hy => by
          rcases List.mem_cons.1 hy with h | h
          · exact .inl h
          · exact .inr (rowOf HLS.out (by simpa using h)).1
         have HB := zj HB hk
         have HB0 := zj HB0 hk
         have HPS := Hd (fun ps h => owned_keep (HPS.out ps h) hk (fun g hg hm => by have := hin _ hm; have := (rowOf (HPS.out ps h) hg).1; have := HVB.out ps h g hg; have := HX.out; omega))
         have HK := zk HK hk
         have HBZ := zZ HBZ hk
         have HS := Hd hs
         have HLS := Hd hown
         have HNEW := Hd hnew
         have HLEN := Hd hlen
         have hm9 : m2 = ll2.length := by obtain ⟨_, _, h⟩ := row_slice hown; injection h
         subst hm9
         clear hk hs hown hnew hlen hin d1 qf cc2 ff2
         obtain ⟨cc2, ff2⟩ := rowi HB.out 2
         have hk : Keeps [X1] v4 (v4.setCell ⟨X1, 2, none⟩ (.slice A2 ll2.length c2)) := (Keeps.refl [X1] _).set1 _ _
         have HB := Hd (show (v4.setCell ⟨X1, 2, none⟩ (.slice A2 ll2.length c2)).heap[X1]? = some (.cells (fRow sx (.slice A5 l'.length c5) (.slice A2 ll2.length c2) (.slice none 0 0)).toArray 26 (0, 0)) from row_set HB.out 2 _)
         have HB0 := zB HB0 hk
         have HK := zH HK hk
         have HS := zI HS hk
         have HLS := zO HLS hk
         have HPS := zP HPS hk
         clear hk
         have HBZ := Hd (show base ≤ (v4.setCell ⟨X1, 2, none⟩ (.slice A2 ll2.length c2)).heap.size by have := HBZ.out; first | omega | (simp; omega))
         go_wp2_with fail
         refine (HWW.out _ HS.out).mono ?_
         rintro e v5 ⟨rfl, hs, hk⟩
         have HK := zH HK hk
         have HB := zB HB hk
         have HB0 := zB HB0 hk
         have HLS := zO HLS hk
         have HPS := zP HPS hk
         have HBZ := zZ HBZ hk
         have HS := Hd hs
         clear hs hk cc2 ff2
         go_wp2
         go_roundw
         ·
          refine ⟨_, A2, _, c2, ll2, HS.out, HK.out, HB0.out, HB.out, HLS.out, HPS.out, HBZ.out, ?_⟩
          rcases HST.out with ⟨r3, q1, q2, q3, q4, q5⟩ | ⟨z, p, q4, q5⟩
          ·
           have hl2 := HNEW.out r2 1 0 rfl q2 q3
           subst hl2
           exact .inl ⟨g, r3, q4, by simp at q1 hg; omega, by simp at q1 hll ⊢; omega, by simp at q1 hrl; omega, by rw [q4]; exact HLLE.out.trans q5⟩
          · exact .inr ⟨z, p, 1, q4, by omega, by rw [q4]; exact HLLE.out.trans q5⟩
         ·
          rw [HS.out.rank, HS0.out.rank]
          rcases HST.out with ⟨r3, q1, q2, q3, q4, q5⟩ | ⟨z, p, q4, q5⟩
          · rw [q4]; simp only [St.rank]; omega
          · rw [q4]; show 0 < 1 + _; omega
        | false =>
         rw [hv] at HI1
         rw [hp] at HI2
         have hLL : LL.2 = σ ∧ (∀ q, LL.1 = some q → q = ll) ∧ LL.2.fits f 9 ∧ LL.2.few := by
          rcases HC.out with ⟨g, r, rfl, hg, hll, hrl, hLL⟩ | ⟨z, p, o, rfl, ho, hLL⟩
          ·
           match g, hg with
           | g + 1, _ =>
           rw [hLL, locals_done hv hp]
           exact ⟨rfl, fun q h => (Option.some.inj h).symm, ⟨by omega, by have := HFL.out; omega⟩, Nat.zero_le _⟩
          · rw [hLL]; exact ⟨rfl, (fun q h => by cases h), ho, trivial⟩
         have HFIT := Hd hLL.2.2.1
         have HFEW := Hd hLL.2.2.2
         have HS := Hd (show SA wr b n LL.2 from by rw [hLL.1]; exact HS.out)
         have HLS := Hd (show ∀ q, LL.1 = some q → wr.ownsRow base 123 2 (.slice A m c) q.length (varCells q) from fun q h => by rw [hLL.2.1 q h]; exact HLS.out)
         have HI1 := Hd (fun w' (h : SA w' b n LL.2) => HI1.out w' (by rw [← hLL.1]; exact h))
         have HI2 := Hd (fun w' (h : SA w' b n LL.2) => HI2.out w' (by rw [← hLL.1]; exact h))
         clear hv hp hLL HC HS0
         go_wp2_with fail
         refine (cK (HI1.out _ HS.out) HK HB HB0 HS) fun v1 HK HB HB0 HS hk => ?_
         have HLS := zQ HLS hk
         have HPS := zP HPS hk
         clear hk
         go_wp2_with fail
         refine (cK (HI2.out _ HS.out) HK HB HB0 HS) fun v2 HK HB HB0 HS hk => ?_
         have HLS := zQ HLS hk
         have HPS := zP HPS hk
         clear hk
         have hq9 := (qsc f).stmts v2 b n LL.2 X1 HS.out HFIT.out HFEW.out zX (block_lt HB.out)
         rw [← HB9.out] at hq9
         have HQ9 := Hd hq9
         clear hq9
         go_wp2_with fail
         refine (HQ9.out).mono ?_
         rintro e v3 ⟨v, rfl, ⟨A9, n9, c9, rfl⟩, hk, hs, ha⟩
         have HK := zH HK hk
         have HB := zB HB hk
         have HB0 := zB HB0 hk
         have HLS := zQ HLS hk
         have HPS := zP HPS hk
         have HA := Hd ha
         have HS := Hd hs
         clear hk hs ha
         obtain ⟨cc3, ff3⟩ := rowi HB.out 3
         have hk : Keeps [X1] v3 (v3.setCell ⟨X1, 3, none⟩ (.slice A9 n9 c9)) := (Keeps.refl [X1] _).set1 _ _
         have HB := Hd (show (v3.setCell ⟨X1, 3, none⟩ (.slice A9 n9 c9)).heap[X1]? = some (.cells (fRow sx (.slice A5 l'.length c5) (.slice A m c) (.slice A9 n9 c9)).toArray 26 (0, 0)) from row_set HB.out 3 _)
         have HB0 := zB HB0 hk
         have HK := zH HK hk
         have HS := zI HS hk
         have HLS := zQ HLS hk
         have HPS := zP HPS hk
         have HA := Hd (fun q h => SsAt.keepS2 (HA.out q h) hk zY)
         clear hk
         obtain ⟨σ7, h7⟩ : ∃ x, x = BB.2 := ⟨_, rfl⟩
         rw [← h7] at HS
         have H7 := Hd h7
         clear h7
         cases σ7 with
         | dead z9 p9 o9 =>
          have c3 : (v3.setCell ⟨X1, 3, none⟩ (.slice A9 n9 c9)).cell? ⟨b, 3, none⟩ = some (.int .i64 (z9 : Int)) := HS.out.flag
          have hz : ((z9 : Int) == 0) = false := by have := HS.out.1; simp; omega
          have hz1 : ((z9 : Int) != 0) = true := by have := HS.out.1; simp; omega
          have hz' : decide ((z9 : Int) = 0) = false := by have := HS.out.1; simp; omega
          have c4 := SA.deadAt HS.out
          go_wp2
          go_region
          obtain ⟨c00, f00, c01, f01, c02, f02, c03, f03⟩ := row4 HB0.out
          have hne1 : X0 ≠ X1 := zX
          have hne2 : X1 ≠ X0 := zX
          have hne3 : X0 ≠ b := zX
          have hne4 : b ≠ X0 := zX
          go_wp2
          go_region
          go_wp2
          refine bodyPost_ret (v := .tuple #[.agg #[.string ⟨#[]⟩, .slice none 0 0, .slice none 0 0, .slice none 0 0], .int .i64 (p9 : Int), .int .i64 (z9 : Int)]) (by simp [results, Tryz.results14, go_sem, c00, c01, c02, c03]) rfl ?_
          refine setsEnd (S := [X0]) (w := (v3.setCell ⟨X1, 3, none⟩ (.slice A9 n9 c9))) ?_ ?_
          · exact zW
          ·
           intro W9 hk
           rw [← H7.out]
           exact ⟨_, rfl, HK.out.hi hk zY, rfl⟩
         | live t9 o9 k9 =>
          have c3 : (v3.setCell ⟨X1, 3, none⟩ (.slice A9 n9 c9)).cell? ⟨b, 3, none⟩ = some (.int .i64 ((0 : Nat) : Int)) := HS.out.flag
          match t9, HS, H7 with
          | [], HS, H7 =>
           obtain ⟨A8, L8, cap8, c8, d8⟩ := HS.out.empty
           have hlt : decide ((L8 : Int) < (L8 : Int)) = false := by simp
           go_wp2
           go_region
           obtain ⟨c00, f00, c01, f01, c02, f02, c03, f03⟩ := row4 HB0.out
           have hne1 : X0 ≠ X1 := zX
           have hne2 : X1 ≠ X0 := zX
           have hne3 : X0 ≠ b := zX
           have hne4 : b ≠ X0 := zX
           obtain ⟨cc0, ff0, cc1, ff1, cc2, ff2, cc3, ff3⟩ := row4 HB.out
           go_wp2
           refine bodyPost_ret (v := .tuple #[.agg (fRow sx (.slice A5 l'.length c5) (.slice A m c) (.slice A9 n9 c9)).toArray, .int .i64 0, .int .i64 0]) (by simp [results, Tryz.results14, go_sem, cc0, cc1, cc2, cc3, c00, c01, c02, c03]) rfl ?_
           refine setsEnd (S := [X0]) (w := (v3.setCell ⟨X1, 3, none⟩ (.slice A9 n9 c9))) ?_ ?_
           · exact zW
           ·
            intro W9 hk
            rw [← H7.out]
            exact fn_live HX.out HSX.out HN.out H39.out HP9.out HL9.out HB9.out H7.out HPS.out HLS.out HA.out HK.out hk HBS.out.1
          | t :: r, HS, H7 =>
           obtain ⟨g8, off8, L8, cap8, i8, c8, d8, hi8, hL8, -⟩ := HS.out.anyTwo
           have hlt : decide ((i8 : Int) < (L8 : Int)) = true := by simp; omega
           have hlt' : decide (i8 < L8) = true := by simp; omega
           have HF9 := Hd (fun w' (h : SA w' b n (.live (t :: r) o9 k9)) => qfail_any w' b n _ h 51 (by omega) (by omega))
           go_wp2
           go_region
           go_wp2_with fail
           refine (HF9.out _ (HS.out.drewN _)).mono ?_
           rintro e w7 ⟨rfl, hs, hk⟩
           have HB0 := Hd (block_keep HB0.out (((Keeps.refl _ _).drewN _).trans hk (fun _ h _ => h)) zY)
           have HK := Hd ((HK.out.drewN _).hi hk zY)
           have HS := Hd hs
           have hs : SA w7 b n (.dead 51 t.at_ o9) := hs
           have c3 : w7.cell? ⟨b, 3, none⟩ = some (.int .i64 ((51 : Nat) : Int)) := hs.flag
           have c4 := SA.deadAt hs
           obtain ⟨p9, hp9⟩ : ∃ x, x = t.at_ := ⟨_, rfl⟩
           rw [← hp9] at c4
           obtain ⟨z9, hz9⟩ : ∃ x : Nat, x = 51 := ⟨_, rfl⟩
           rw [← hz9] at c3
           have hz1 : ((z9 : Int) != 0) = true := by simp; omega
           have hz' : decide ((z9 : Int) = 0) = false := by simp; omega
           have HZ9 := Hd (And.intro hp9 hz9)
           clear hk hs c8 d8 hlt hlt' hp9 hz9
           obtain ⟨c00, f00, c01, f01, c02, f02, c03, f03⟩ := row4 HB0.out
           have hne1 : X0 ≠ X1 := zX
           have hne2 : X1 ≠ X0 := zX
           have hne3 : X0 ≠ b := zX
           have hne4 : b ≠ X0 := zX
           go_wp2
           go_region
           go_wp2
           refine bodyPost_ret (v := .tuple #[.agg #[.string ⟨#[]⟩, .slice none 0 0, .slice none 0 0, .slice none 0 0], .int .i64 (p9 : Int), .int .i64 (z9 : Int)]) (by simp [results, Tryz.results14, go_sem, c00, c01, c02, c03]) rfl ?_
           refine setsEnd (S := [X0]) (w := w7) ?_ ?_
           · exact zW
           ·
            intro W9 hk
            rw [← H7.out, HZ9.out.1, HZ9.out.2]
            exact ⟨_, rfl, HK.out.hi hk zY, rfl⟩
    ·
     have hn9 : σm.sees [41] = false := by simpa using hc9
     have htk : σm.take [41] = σm := by unfold St.take; rw [if_neg hc9]
     rw [hn9, htk] at HTA
     have HST := Hd (HST.out.2 hn9)
     clear hc9 hn9 htk
     go_wp2_with fail
     refine (HTA.out _ HS.out).mono ?_
     rintro e v1 ⟨rfl, hs, hk⟩
     have HK := zH HK hk
     have HB := zB HB hk
     have HB0 := zB HB0 hk
     have HLS := Hd (owned_keep HLS.out hk (fun g hg hm => by have := (rowOf HLS.out hg).1; have := HX.out; simp at hm <;> omega))
     have HS := Hd hs
     clear hs hk
     go_wp2_with fail
     refine (HTW.out _ HS.out).mono ?_
     rintro e v2 ⟨rfl, hs, hk⟩
     have HK := zH HK hk
     have HB := zB HB hk
     have HB0 := zB HB0 hk
     have HLS := Hd (owned_keep HLS.out hk (fun g hg hm => by have := (rowOf HLS.out hg).1; have := HX.out; simp at hm <;> omega))
     have HS := Hd hs
     clear hs hk
     go_wp2
     go_roundw
     ·
      refine ⟨_, A5, _, c5, l', HS.out, HK.out, HB0.out, HB.out, HLS.out, ?_⟩
      rcases HST.out with ⟨q9, r2, p1, p2, p3, p4, p5, p6⟩ | ⟨z, p, p4, p6⟩
      ·
       have hl2 := HNEW.out q9 0 0 p1 p2 p3
       refine .inl ⟨g, r2, p4, by omega, ?_, by omega, ?_⟩
       · rw [hl2]; simp; omega
       · rw [p4, hl2]; exact p6
      · exact .inr ⟨z, p, p4, by rw [p4]; exact p6⟩
     ·
      rw [HS.out.rank, HS0.out.rank]
      rcases HST.out with ⟨q9, r2, p1, p2, p3, p4, p5, p6⟩ | ⟨z, p, p4, p6⟩
      · rw [p4]; simp only [St.rank]; omega
      · rw [p4]; show 0 < 1 + _; omega
  ·
   simp only [St.err] at c3
   have hz : ((z : Int) == 0) = false := by have := HS.out.1; simp; omega
   have hz' : decide ((z : Int) = 0) = false := by have := HS.out.1; simp; omega
   have HDEAD := Hd (show PP.2 = .dead z p 0 from by rw [hPM])
   have HS := Hd (show SA wr b n PP.2 from by rw [HDEAD.out]; exact HS.out)
   have HPS := Hd (show ∀ ps, PP.1 = some ps → wr.ownsRow (X1 + 1) 123 2 (.slice Ap mp cp) ps.length (varCells ps) from fun ps h => by rw [hPM] at h; cases h)
   have HROOT0 := Hd (show Root ts.length PP.2 from .inr ⟨z, p, HDEAD.out⟩)
   clear hPM HLS HS0
   have HI := Hd (fun w' (h : SA w' b n PP.2) => qis_any w' b n PP.2 h [123])
   have hbr : ¬ PP.2.sees [123] = true := by rw [HDEAD.out]; simp [St.sees]
   have hn9 : PP.2.sees [123] = false := by simpa using hbr
   rw [hn9] at HI
   have hbrace : brace n PP.2 = PP.2.fail n 51 := by unfold brace; rw [if_neg hbr]
   have HF9 := Hd (fun w' (h : SA w' b n PP.2) => qfail_any w' b n PP.2 h 51 (by omega) (by omega))
   have HBR := Hd hbrace
   have HROOT := Hd (show (∃ r, brace n PP.2 = .live r 1 0 ∧ r.length ≤ ts.length) ∨ ∃ z p, brace n PP.2 = .dead z p 0 from .inr (by
    rw [hbrace]
    rcases HROOT0.out with ⟨r, h, _⟩ | ⟨z, p, h⟩
    · rw [h]; exact ⟨_, _, rfl⟩
    · rw [h]; exact ⟨_, _, rfl⟩))
   clear hbr hn9 hbrace
   go_wp2_with fail
   refine (cK (HI.out _ HS.out) HK HB HB0 HS) fun v1 HK HB HB0 HS hk => ?_
   have HPS := zP HPS hk
   clear hk
   go_wp2_with fail
   refine (HF9.out _ HS.out).mono ?_
   rintro e v2 ⟨rfl, hs, hk⟩
   have HK := zH HK hk
   have HB := zB HB hk
   have HB0 := zB HB0 hk
   have HPS := zP HPS hk
   have HS := Hd (show SA v2 b n (brace n PP.2) from by rw [HBR.out]; exact hs)
   clear hs hk
   have HBASE := Hd (show X1 < v2.heap.size from block_lt HB.out)
   obtain ⟨base, hbase⟩ : ∃ x, x = v2.heap.size := ⟨_, rfl⟩
   have HVB := Hd (show ∀ ps, PP.1 = some ps → ∀ g, ((.slice Ap mp cp) : Value).ownBlock = some g → g < base from fun ps h g hg => by
    obtain ⟨_, cur, hc⟩ := rowOf (HPS.out ps h) hg
    rw [hbase]; exact block_lt hc)
   have HBS := Hd (show X1 < base ∧ base ≤ v2.heap.size from ⟨by rw [hbase]; exact HBASE.out, by omega⟩)
   clear hbase
   go_wp2_with fail
   go_loopw [10] (fun _ wr => ∃ (σ : St) (A : Option Addr) (m c : Nat) (ll : List Vr), SA wr b n σ ∧ Keeps [] w wr ∧ wr.heap[X0]? = some (.cells #[.string ⟨#[]⟩, .slice none 0 0, .slice none 0 0, .slice none 0 0] 26 (0, 0)) ∧ wr.heap[X1]? = some (.cells (fRow sx (.slice Ap mp cp) (.slice A m c) (.slice none 0 0)).toArray 26 (0, 0)) ∧ wr.ownsRow base 123 2 (.slice A m c) ll.length (varCells ll) ∧ (∀ ps, PP.1 = some ps → wr.ownsRow (X1 + 1) 123 2 ((.slice Ap mp cp)) ps.length (varCells ps)) ∧ base ≤ wr.heap.size ∧ ((∃ g r, σ = .live r 1 0 ∧ r.length + 1 ≤ g ∧ ll.length + r.length ≤ 5000 ∧ r.length ≤ ts.length ∧ LL = σ.lift n kI (vlocals g ll)) ∨ (∃ z p o, σ = .dead z p o ∧ o ≤ 1000 ∧ LL = (none, σ)))) (fun _ wr => qrank wr b)
   case atStart => exact ⟨_, none, 0, 0, [], HS.out, HK.out, HB0.out, HB.out, World.ownsRow_nil _ _ _ _, HPS.out, HBS.out.2, loop2_start HL9.out HROOT.out HFL.out HTS.out⟩
   case round =>
    obtain ⟨σ, A, m, c, ll, hs, hk, hb0, hb1, hown, hps, hbz, hc⟩ := hrel
    have HI1 := Hd (fun w' (h : SA w' b n σ) => qis_any w' b n σ h [118, 97, 114])
    have HI2 := Hd (fun w' (h : SA w' b n σ) => qis_any w' b n σ h [112, 116, 114])
    have HS := Hd hs
    have HK := Hd hk
    have HB0 := Hd hb0
    have HB := Hd hb1
    have HLS := Hd hown
    have HPS := Hd hps
    have HBZ := Hd hbz
    have HC := Hd hc
    have HS0 := Hd hs
    clear hs hk hb0 hb1 hown hps hbz hc
    cases hv : σ.sees [118, 97, 114] with
    | true =>
     have hp : σ.sees [112, 116, 114] = false := by
      rcases HC.out with ⟨g, r, rfl, _⟩ | ⟨z, p, o, rfl, _⟩
      · exact sees_other (show Px.sees r [118, 97, 114] = true from hv) (by decide)
      · cases hv
     rw [hv] at HI1
     rw [hp] at HI2
     obtain ⟨g, r, hσ, hg, hll, hrl, hLL⟩ : ∃ g r, σ = .live r 1 0 ∧ r.length + 1 ≤ g ∧ ll.length + r.length ≤ 5000 ∧ r.length ≤ ts.length ∧ LL = σ.lift n kI (vlocals g ll) := by
      rcases HC.out with h | ⟨z, p, o, rfl, _⟩
      · exact h
      · cases hv
     subst hσ
     have hsee : Px.sees r [118, 97, 114] = true ∨ Px.sees r [112, 116, 114] = true := .inl hv
     have hq : Px.sees r [112, 116, 114] = false := hp
     match g, hg with
     | g + 1, hg =>
     have hst := locals_step (n := n) (g := g) (o := 1) (k := 0) (l := ll) hsee
     rw [hq] at hst
     have HST := Hd hst
     have HLLE := Hd hLL
     have hrr : ∃ t r2, r = t :: r2 := by
      rcases hsee with h | h
      · obtain ⟨t, r2, h, _⟩ := sees_cons (by simp) h; exact ⟨t, r2, h⟩
      · obtain ⟨t, r2, h, _⟩ := sees_cons (by simp) h; exact ⟨t, r2, h⟩
     obtain ⟨t, r2, rfl⟩ := hrr
     simp only [List.tail_cons] at HST
     have hm9 : m = ll.length := by obtain ⟨_, _, h⟩ := row_slice HLS.out; injection h
     subst hm9
     have HM := Hd (fun w' (h : SA w' b n (.live r2 1 0)) (ho : w'.ownsRow base 123 2 (.slice A ll.length c) ll.length (varCells ll)) (hb : base ≤ w'.heap.size) => qmore_any w' b n _ h ll _ base ho ⟨by have := HX.out; have := HBS.out; omega, hb⟩ (by omega) false 20 (by omega))
     have HWW := Hd (fun w' (h : SA w' b n (dcl n 20 ll.length (.live r2 1 0))) => qwant_any w' b n _ h [59])
     clear hv hp hLL hsee hq hst HC
     go_wp2_with fail
     refine (cK (HI1.out _ HS.out) HK HB HB0 HS) fun v1 HK HB HB0 HS hk => ?_
     have HLS := zO HLS hk
     have HPS := zP HPS hk
     have HBZ := zZ HBZ hk
     clear hk
     go_wp2_with fail
     refine (cK (HI2.out _ HS.out) HK HB HB0 HS) fun v2 HK HB HB0 HS hk => ?_
     have HLS := zO HLS hk
     have HPS := zP HPS hk
     have HBZ := zZ HBZ hk
     clear hk
     obtain ⟨g2, off2, L2, cap2, i2, d0, d1, hi2, hL2, q0, q1, q2, qf, hq⟩ := HS.out.prev
     have HS := Hd hq
     have hk : Keeps [b] v2 (v2.setCell ⟨b, 1, none⟩ (.int .i64 ((i2 : Int) + 1))) := (Keeps.refl [b] _).set1 _ _
     have HK := zH HK hk
     have HB := zB HB hk
     have HB0 := zB HB0 hk
     have HLS := zO HLS hk
     have HPS := zP HPS hk
     have HBZ := Hd (show base ≤ (v2.setCell ⟨b, 1, none⟩ (.int .i64 ((i2 : Int) + 1))).heap.size by have := HBZ.out; have := hk.size; omega)
     clear hk hq q0 q1 q2 d0
     obtain ⟨cc2, ff2⟩ := rowi HB.out 2
     have hbx : b ≠ X1 := zX
     have hxb : X1 ≠ b := zX
     go_wp2_with fail
     refine (HM.out _ HS.out HLS.out HBZ.out).mono ?_
     rintro e v3 ⟨v', rfl, ⟨A2, m2, c2, rfl⟩, hk, hs, ll2, hown, hlen, hnew⟩
     have hin : ∀ y ∈ (b :: (Value.slice A ll.length c).ownBlock.toList), y = b ∨ base ≤ y := fun y hy => by
      rcases List.mem_cons.1 hy with h | h
      · exact .inl h
      · exact .inr (rowOf HLS.out (by simpa using h)).1
     have HB := zj HB hk
     have HB0 := zj HB0 hk
     have HPS := Hd (fun ps h => owned_keep (HPS.out ps h) hk (fun g hg hm => by have := hin _ hm; have := (rowOf (HPS.out ps h) hg).1; have := HVB.out ps h g hg; have := HX.out; omega))
     have HK := zk HK hk
     have HBZ := zZ HBZ hk
     have HS := Hd hs
     have HLS := Hd hown
     have HNEW := Hd hnew
     have HLEN := Hd hlen
     have hm9 : m2 = ll2.length := by obtain ⟨_, _, h⟩ := row_slice hown; injection h
     subst hm9
     clear hk hs hown hnew hlen hin d1 qf cc2 ff2
     obtain ⟨cc2, ff2⟩ := rowi HB.out 2
     have hk : Keeps [X1] v3 (v3.setCell ⟨X1, 2, none⟩ (.slice A2 ll2.length c2)) := (Keeps.refl [X1] _).set1 _ _
     have HB := Hd (show (v3.setCell ⟨X1, 2, none⟩ (.slice A2 ll2.length c2)).heap[X1]? = some (.cells (fRow sx (.slice Ap mp cp) (.slice A2 ll2.length c2) (.slice none 0 0)).toArray 26 (0, 0)) from row_set HB.out 2 _)
     have HB0 := zB HB0 hk
     have HK := zH HK hk
     have HS := zI HS hk
     have HLS := zO HLS hk
     have HPS := zP HPS hk
     clear hk
     have HBZ := Hd (show base ≤ (v3.setCell ⟨X1, 2, none⟩ (.slice A2 ll2.length c2)).heap.size by have := HBZ.out; first | omega | (simp; omega))
     go_wp2_with fail
     refine (HWW.out _ HS.out).mono ?_
     rintro e v4 ⟨rfl, hs, hk⟩
     have HK := zH HK hk
     have HB := zB HB hk
     have HB0 := zB HB0 hk
     have HLS := zO HLS hk
     have HPS := zP HPS hk
     have HBZ := zZ HBZ hk
     have HS := Hd hs
     clear hs hk cc2 ff2
     go_wp2
     go_roundw
     ·
      refine ⟨_, A2, _, c2, ll2, HS.out, HK.out, HB0.out, HB.out, HLS.out, HPS.out, HBZ.out, ?_⟩
      rcases HST.out with ⟨r3, q1, q2, q3, q4, q5⟩ | ⟨z, p, q4, q5⟩
      ·
       have hl2 := HNEW.out r2 1 0 rfl q2 q3
       subst hl2
       exact .inl ⟨g, r3, q4, by simp at q1 hg; omega, by simp at q1 hll ⊢; omega, by simp at q1 hrl; omega, by rw [q4]; exact HLLE.out.trans q5⟩
      · exact .inr ⟨z, p, 1, q4, by omega, by rw [q4]; exact HLLE.out.trans q5⟩
     ·
      rw [HS.out.rank, HS0.out.rank]
      rcases HST.out with ⟨r3, q1, q2, q3, q4, q5⟩ | ⟨z, p, q4, q5⟩
      · rw [q4]; simp only [St.rank]; omega
      · rw [q4]; show 0 < 1 + _; omega
    | false =>
     cases hp : σ.sees [112, 116, 114] with
     | true =>
      rw [hv] at HI1
      rw [hp] at HI2
      obtain ⟨g, r, hσ, hg, hll, hrl, hLL⟩ : ∃ g r, σ = .live r 1 0 ∧ r.length + 1 ≤ g ∧ ll.length + r.length ≤ 5000 ∧ r.length ≤ ts.length ∧ LL = σ.lift n kI (vlocals g ll) := by
       rcases HC.out with h | ⟨z, p, o, rfl, _⟩
       · exact h
       · cases hp
      subst hσ
      have hsee : Px.sees r [118, 97, 114] = true ∨ Px.sees r [112, 116, 114] = true := .inr hp
      have hq : Px.sees r [112, 116, 114] = true := hp
      match g, hg with
      | g + 1, hg =>
      have hst := locals_step (n := n) (g := g) (o := 1) (k := 0) (l := ll) hsee
      rw [hq] at hst
      have HST := Hd hst
      have HLLE := Hd hLL
      have hrr : ∃ t r2, r = t :: r2 := by
       rcases hsee with h | h
       · obtain ⟨t, r2, h, _⟩ := sees_cons (by simp) h; exact ⟨t, r2, h⟩
       · obtain ⟨t, r2, h, _⟩ := sees_cons (by simp) h; exact ⟨t, r2, h⟩
      obtain ⟨t, r2, rfl⟩ := hrr
      simp only [List.tail_cons] at HST
      have hm9 : m = ll.length := by obtain ⟨_, _, h⟩ := row_slice HLS.out; injection h
      subst hm9
      have HM := Hd (fun w' (h : SA w' b n (.live r2 1 0)) (ho : w'.ownsRow base 123 2 (.slice A ll.length c) ll.length (varCells ll)) (hb : base ≤ w'.heap.size) => qmore_any w' b n _ h ll _ base ho ⟨by have := HX.out; have := HBS.out; omega, hb⟩ (by omega) true 20 (by omega))
      have HWW := Hd (fun w' (h : SA w' b n (dcl n 20 ll.length (.live r2 1 0))) => qwant_any w' b n _ h [59])
      clear hv hp hLL hsee hq hst HC
      go_wp2_with fail
      refine (cK (HI1.out _ HS.out) HK HB HB0 HS) fun v1 HK HB HB0 HS hk => ?_
      have HLS := zO HLS hk
      have HPS := zP HPS hk
      have HBZ := zZ HBZ hk
      clear hk
      go_wp2_with fail
      refine (cK (HI2.out _ HS.out) HK HB HB0 HS) fun v2 HK HB HB0 HS hk => ?_
      have HLS := zO HLS hk
      have HPS := zP HPS hk
      have HBZ := zZ HBZ hk
      clear hk
      go_wp2_with fail
      refine (cK (HI2.out _ HS.out) HK HB HB0 HS) fun v3 HK HB HB0 HS hk => ?_
      have HLS := zO HLS hk
      have HPS := zP HPS hk
      have HBZ := zZ HBZ hk
      clear hk
      obtain ⟨g2, off2, L2, cap2, i2, d0, d1, hi2, hL2, q0, q1, q2, qf, hq⟩ := HS.out.prev
      have HS := Hd hq
      have hk : Keeps [b] v3 (v3.setCell ⟨b, 1, none⟩ (.int .i64 ((i2 : Int) + 1))) := (Keeps.refl [b] _).set1 _ _
      have HK := zH HK hk
      have HB := zB HB hk
      have HB0 := zB HB0 hk
      have HLS := zO HLS hk
      have HPS := zP HPS hk
      have HBZ := Hd (show base ≤ (v3.setCell ⟨b, 1, none⟩ (.int .i64 ((i2 : Int) + 1))).heap.size by have := HBZ.out; have := hk.size; omega)
      clear hk hq q0 q1 q2 d0
      obtain ⟨cc2, ff2⟩ := rowi HB.out 2
      have hbx : b ≠ X1 := zX
      have hxb : X1 ≠ b := zX
      go_wp2_with fail
      refine (HM.out _ HS.out HLS.out HBZ.out).mono ?_
      rintro e v4 ⟨v', rfl, ⟨A2, m2, c2, rfl⟩, hk, hs, ll2, hown, hlen, hnew⟩
      have hin : ∀ y ∈ (b :: (Value.slice A ll.length c).ownBlock.toList), y = b ∨ base ≤ y := fun y hy => by
       rcases List.mem_cons.1 hy with h | h
       · exact .inl h
       · exact .inr (rowOf HLS.out (by simpa using h)).1
      have HB := zj HB hk
      have HB0 := zj HB0 hk
      have HPS := Hd (fun ps h => owned_keep (HPS.out ps h) hk (fun g hg hm => by have := hin _ hm; have := (rowOf (HPS.out ps h) hg).1; have := HVB.out ps h g hg; have := HX.out; omega))
      have HK := zk HK hk
      have HBZ := zZ HBZ hk
      have HS := Hd hs
      have HLS := Hd hown
      have HNEW := Hd hnew
      have HLEN := Hd hlen
      have hm9 : m2 = ll2.length := by obtain ⟨_, _, h⟩ := row_slice hown; injection h
      subst hm9
      clear hk hs hown hnew hlen hin d1 qf cc2 ff2
      obtain ⟨cc2, ff2⟩ := rowi HB.out 2
      have hk : Keeps [X1] v4 (v4.setCell ⟨X1, 2, none⟩ (.slice A2 ll2.length c2)) := (Keeps.refl [X1] _).set1 _ _
      have HB := Hd (show (v4.setCell ⟨X1, 2, none⟩ (.slice A2 ll2.length c2)).heap[X1]? = some (.cells (fRow sx (.slice Ap mp cp) (.slice A2 ll2.length c2) (.slice none 0 0)).toArray 26 (0, 0)) from row_set HB.out 2 _)
      have HB0 := zB HB0 hk
      have HK := zH HK hk
      have HS := zI HS hk
      have HLS := zO HLS hk
      have HPS := zP HPS hk
      clear hk
      have HBZ := Hd (show base ≤ (v4.setCell ⟨X1, 2, none⟩ (.slice A2 ll2.length c2)).heap.size by have := HBZ.out; first | omega | (simp; omega))
      go_wp2_with fail
      refine (HWW.out _ HS.out).mono ?_
      rintro e v5 ⟨rfl, hs, hk⟩
      have HK := zH HK hk
      have HB := zB HB hk
      have HB0 := zB HB0 hk
      have HLS := zO HLS hk
      have HPS := zP HPS hk
      have HBZ := zZ HBZ hk
      have HS := Hd hs
      clear hs hk cc2 ff2
      go_wp2
      go_roundw
      ·
       refine ⟨_, A2, _, c2, ll2, HS.out, HK.out, HB0.out, HB.out, HLS.out, HPS.out, HBZ.out, ?_⟩
       rcases HST.out with ⟨r3, q1, q2, q3, q4, q5⟩ | ⟨z, p, q4, q5⟩
       ·
        have hl2 := HNEW.out r2 1 0 rfl q2 q3
        subst hl2
        exact .inl ⟨g, r3, q4, by simp at q1 hg; omega, by simp at q1 hll ⊢; omega, by simp at q1 hrl; omega, by rw [q4]; exact HLLE.out.trans q5⟩
       · exact .inr ⟨z, p, 1, q4, by omega, by rw [q4]; exact HLLE.out.trans q5⟩
      ·
       rw [HS.out.rank, HS0.out.rank]
       rcases HST.out with ⟨r3, q1, q2, q3, q4, q5⟩ | ⟨z, p, q4, q5⟩
       · rw [q4]; simp only [St.rank]; omega
       · rw [q4]; show 0 < 1 + _; omega
     | false =>
      rw [hv] at HI1
      rw [hp] at HI2
      have hLL : LL.2 = σ ∧ (∀ q, LL.1 = some q → q = ll) ∧ LL.2.fits f 9 ∧ LL.2.few := by
       rcases HC.out with ⟨g, r, rfl, hg, hll, hrl, hLL⟩ | ⟨z, p, o, rfl, ho, hLL⟩
       ·
        match g, hg with
        | g + 1, _ =>
        rw [hLL, locals_done hv hp]
        exact ⟨rfl, fun q h => (Option.some.inj h).symm, ⟨by omega, by have := HFL.out; omega⟩, Nat.zero_le _⟩
       · rw [hLL]; exact ⟨rfl, (fun q h => by cases h), ho, trivial⟩
      have HFIT := Hd hLL.2.2.1
      have HFEW := Hd hLL.2.2.2
      have HS := Hd (show SA wr b n LL.2 from by rw [hLL.1]; exact HS.out)
      have HLS := Hd (show ∀ q, LL.1 = some q → wr.ownsRow base 123 2 (.slice A m c) q.length (varCells q) from fun q h => by rw [hLL.2.1 q h]; exact HLS.out)
      have HI1 := Hd (fun w' (h : SA w' b n LL.2) => HI1.out w' (by rw [← hLL.1]; exact h))
      have HI2 := Hd (fun w' (h : SA w' b n LL.2) => HI2.out w' (by rw [← hLL.1]; exact h))
      clear hv hp hLL HC HS0
      go_wp2_with fail
      refine (cK (HI1.out _ HS.out) HK HB HB0 HS) fun v1 HK HB HB0 HS hk => ?_
      have HLS := zQ HLS hk
      have HPS := zP HPS hk
      clear hk
      go_wp2_with fail
      refine (cK (HI2.out _ HS.out) HK HB HB0 HS) fun v2 HK HB HB0 HS hk => ?_
      have HLS := zQ HLS hk
      have HPS := zP HPS hk
      clear hk
      have hq9 := (qsc f).stmts v2 b n LL.2 X1 HS.out HFIT.out HFEW.out zX (block_lt HB.out)
      rw [← HB9.out] at hq9
      have HQ9 := Hd hq9
      clear hq9
      go_wp2_with fail
      refine (HQ9.out).mono ?_
      rintro e v3 ⟨v, rfl, ⟨A9, n9, c9, rfl⟩, hk, hs, ha⟩
      have HK := zH HK hk
      have HB := zB HB hk
      have HB0 := zB HB0 hk
      have HLS := zQ HLS hk
      have HPS := zP HPS hk
      have HA := Hd ha
      have HS := Hd hs
      clear hk hs ha
      obtain ⟨cc3, ff3⟩ := rowi HB.out 3
      have hk : Keeps [X1] v3 (v3.setCell ⟨X1, 3, none⟩ (.slice A9 n9 c9)) := (Keeps.refl [X1] _).set1 _ _
      have HB := Hd (show (v3.setCell ⟨X1, 3, none⟩ (.slice A9 n9 c9)).heap[X1]? = some (.cells (fRow sx (.slice Ap mp cp) (.slice A m c) (.slice A9 n9 c9)).toArray 26 (0, 0)) from row_set HB.out 3 _)
      have HB0 := zB HB0 hk
      have HK := zH HK hk
      have HS := zI HS hk
      have HLS := zQ HLS hk
      have HPS := zP HPS hk
      have HA := Hd (fun q h => SsAt.keepS2 (HA.out q h) hk zY)
      clear hk
      obtain ⟨σ7, h7⟩ : ∃ x, x = BB.2 := ⟨_, rfl⟩
      rw [← h7] at HS
      have H7 := Hd h7
      clear h7
      cases σ7 with
      | dead z9 p9 o9 =>
       have c3 : (v3.setCell ⟨X1, 3, none⟩ (.slice A9 n9 c9)).cell? ⟨b, 3, none⟩ = some (.int .i64 (z9 : Int)) := HS.out.flag
       have hz : ((z9 : Int) == 0) = false := by have := HS.out.1; simp; omega
       have hz1 : ((z9 : Int) != 0) = true := by have := HS.out.1; simp; omega
       have hz' : decide ((z9 : Int) = 0) = false := by have := HS.out.1; simp; omega
       have c4 := SA.deadAt HS.out
       go_wp2
       go_region
       obtain ⟨c00, f00, c01, f01, c02, f02, c03, f03⟩ := row4 HB0.out
       have hne1 : X0 ≠ X1 := zX
       have hne2 : X1 ≠ X0 := zX
       have hne3 : X0 ≠ b := zX
       have hne4 : b ≠ X0 := zX
       go_wp2
       go_region
       go_wp2
       refine bodyPost_ret (v := .tuple #[.agg #[.string ⟨#[]⟩, .slice none 0 0, .slice none 0 0, .slice none 0 0], .int .i64 (p9 : Int), .int .i64 (z9 : Int)]) (by simp [results, Tryz.results14, go_sem, c00, c01, c02, c03]) rfl ?_
       refine setsEnd (S := [X0]) (w := (v3.setCell ⟨X1, 3, none⟩ (.slice A9 n9 c9))) ?_ ?_
       · exact zW
       ·
        intro W9 hk
        rw [← H7.out]
        exact ⟨_, rfl, HK.out.hi hk zY, rfl⟩
      | live t9 o9 k9 =>
       have c3 : (v3.setCell ⟨X1, 3, none⟩ (.slice A9 n9 c9)).cell? ⟨b, 3, none⟩ = some (.int .i64 ((0 : Nat) : Int)) := HS.out.flag
       match t9, HS, H7 with
       | [], HS, H7 =>
        obtain ⟨A8, L8, cap8, c8, d8⟩ := HS.out.empty
        have hlt : decide ((L8 : Int) < (L8 : Int)) = false := by simp
        go_wp2
        go_region
        obtain ⟨c00, f00, c01, f01, c02, f02, c03, f03⟩ := row4 HB0.out
        have hne1 : X0 ≠ X1 := zX
        have hne2 : X1 ≠ X0 := zX
        have hne3 : X0 ≠ b := zX
        have hne4 : b ≠ X0 := zX
        obtain ⟨cc0, ff0, cc1, ff1, cc2, ff2, cc3, ff3⟩ := row4 HB.out
        go_wp2
        refine bodyPost_ret (v := .tuple #[.agg (fRow sx (.slice Ap mp cp) (.slice A m c) (.slice A9 n9 c9)).toArray, .int .i64 0, .int .i64 0]) (by simp [results, Tryz.results14, go_sem, cc0, cc1, cc2, cc3, c00, c01, c02, c03]) rfl ?_
        refine setsEnd (S := [X0]) (w := (v3.setCell ⟨X1, 3, none⟩ (.slice A9 n9 c9))) ?_ ?_
        · exact zW
        ·
         intro W9 hk
         rw [← H7.out]
         exact fn_live HX.out HSX.out HN.out H39.out HP9.out HL9.out HB9.out H7.out HPS.out HLS.out HA.out HK.out hk HBS.out.1
       | t :: r, HS, H7 =>
        obtain ⟨g8, off8, L8, cap8, i8, c8, d8, hi8, hL8, -⟩ := HS.out.anyTwo
        have hlt : decide ((i8 : Int) < (L8 : Int)) = true := by simp; omega
        have hlt' : decide (i8 < L8) = true := by simp; omega
        have HF9 := Hd (fun w' (h : SA w' b n (.live (t :: r) o9 k9)) => qfail_any w' b n _ h 51 (by omega) (by omega))
        go_wp2
        go_region
        go_wp2_with fail
        refine (HF9.out _ (HS.out.drewN _)).mono ?_
        rintro e w7 ⟨rfl, hs, hk⟩
        have HB0 := Hd (block_keep HB0.out (((Keeps.refl _ _).drewN _).trans hk (fun _ h _ => h)) zY)
        have HK := Hd ((HK.out.drewN _).hi hk zY)
        have HS := Hd hs
        have hs : SA w7 b n (.dead 51 t.at_ o9) := hs
        have c3 : w7.cell? ⟨b, 3, none⟩ = some (.int .i64 ((51 : Nat) : Int)) := hs.flag
        have c4 := SA.deadAt hs
        obtain ⟨p9, hp9⟩ : ∃ x, x = t.at_ := ⟨_, rfl⟩
        rw [← hp9] at c4
        obtain ⟨z9, hz9⟩ : ∃ x : Nat, x = 51 := ⟨_, rfl⟩
        rw [← hz9] at c3
        have hz1 : ((z9 : Int) != 0) = true := by simp; omega
        have hz' : decide ((z9 : Int) = 0) = false := by simp; omega
        have HZ9 := Hd (And.intro hp9 hz9)
        clear hk hs c8 d8 hlt hlt' hp9 hz9
        obtain ⟨c00, f00, c01, f01, c02, f02, c03, f03⟩ := row4 HB0.out
        have hne1 : X0 ≠ X1 := zX
        have hne2 : X1 ≠ X0 := zX
        have hne3 : X0 ≠ b := zX
        have hne4 : b ≠ X0 := zX
        go_wp2
        go_region
        go_wp2
        refine bodyPost_ret (v := .tuple #[.agg #[.string ⟨#[]⟩, .slice none 0 0, .slice none 0 0, .slice none 0 0], .int .i64 (p9 : Int), .int .i64 (z9 : Int)]) (by simp [results, Tryz.results14, go_sem, c00, c01, c02, c03]) rfl ?_
        refine setsEnd (S := [X0]) (w := w7) ?_ ?_
        · exact zW
        ·
         intro W9 hk
         rw [← H7.out, HZ9.out.1, HZ9.out.2]
         exact ⟨_, rfl, HK.out.hi hk zY, rfl⟩
end Go.Proofs.YtbikifibfaaggaaGreatDoor
