import Derived.Test.YtbikifibfaaggaaGreatDoorVMV
namespace Go.Proofs.YtbikifibfaaggaaGreatDoor
set_option maxHeartbeats 16000000
set_option maxRecDepth 100000
open Go.RowKit Go.Shelf
open Lx (Tok Tx)
open Px (Ex Cn Sm Vr)
open Reg (Is Fact)
attribute [local go_sem] Reg.wantedV Reg.gives_value Reg.gives_skip Reg.gives_enter
theorem stageF {w w' : World} {b n X0 X1 : Nat} {cs0 cs1 : Array Value} {T : TypeId} {σ : St} {Q : World → Prop} (hk : Keeps [] w w') (h0 : w'.heap[X0]? = some (.cells cs0 T (0, 0))) (h1 : w'.heap[X1]? = some (.cells cs1 T (0, 0))) (hs : SA w' b n σ)
 (h : ∀ W, Keeps [] w W → W.heap[X0]? = some (.cells cs0 T (0, 0)) → W.heap[X1]? = some (.cells cs1 T (0, 0)) → SA W b n σ → Q W) : Q w' := h w' hk h0 h1 hs
def Root (m : Nat) (σ : St) : Prop := (∃ ts, σ = .live ts 0 0 ∧ ts.length ≤ m) ∨ ∃ z p, σ = .dead z p 0
theorem Root.want {m n : Nat} {s : Tx} {σ : St} (h : Root m σ) : Root m (σ.want n s) := by
 rcases h with ⟨ts, rfl, hl⟩ | ⟨z, p, rfl⟩
 ·
  unfold St.want
  split
  · exact .inl ⟨_, rfl, by simp; omega⟩
  · exact .inr ⟨_, _, rfl⟩
 · exact .inr ⟨_, _, rfl⟩
theorem Root.name {m n : Nat} {σ : St} (h : Root m σ) : Root m (σ.name n) := by
 rcases h with ⟨ts, rfl, hl⟩ | ⟨z, p, rfl⟩
 ·
  unfold St.name
  split
  · exact .inl ⟨_, rfl, by simp; omega⟩
  · exact .inr ⟨_, _, rfl⟩
 · exact .inr ⟨_, _, rfl⟩
theorem Root.adv {m : Nat} {σ : St} (h : Root m σ) : Root m σ.adv := by
 rcases h with ⟨ts, rfl, hl⟩ | ⟨z, p, rfl⟩
 · exact .inl ⟨_, rfl, by simp; omega⟩
 · exact .inr ⟨_, _, rfl⟩
theorem hrt_of {ts : List Tok} {n : Nat} {σ3 : St} (h3 : σ3 = (((St.live ts 0 0).want n [102, 110]).name n).want n [40]) : Root ts.length σ3 := by
 rw [h3]
 exact Root.want (Root.name (Root.want (.inl ⟨ts, rfl, Nat.le_refl _⟩)))
abbrev fRow (s : ByteArray) (vp vl vb : Value) : List Value := [.string s, vp, vl, vb]
theorem loop2_start {n f : Nat} {ts : List Tok} {PP LL : Option (List Vr) × St} (hL : LL = (brace n PP.2).lift n kI (vlocals f [])) (hR : (∃ r, brace n PP.2 = .live r 1 0 ∧ r.length ≤ ts.length) ∨ ∃ z p, brace n PP.2 = .dead z p 0) (hf : 4 * ts.length + 12 ≤ f) (ht : ts.length ≤ 5000) :
 (∃ g r, brace n PP.2 = .live r 1 0 ∧ r.length + 1 ≤ g ∧ ([] : List Vr).length + r.length ≤ 5000 ∧ r.length ≤ ts.length ∧ LL = (brace n PP.2).lift n kI (vlocals g [])) ∨ (∃ z p o, brace n PP.2 = .dead z p o ∧ o ≤ 1000 ∧ LL = (none, brace n PP.2)) := by
 rcases hR with ⟨r, h, hl⟩ | ⟨z, p, h⟩
 · exact .inl ⟨f, r, h, by omega, by simp; omega, hl, hL⟩
 · exact .inr ⟨z, p, 0, h, by omega, by rw [hL, h]; rfl⟩
theorem lift_live {α : Type} {n : Nat} {kk : α → Nat → Nat} {g : List Tok → Nat → Nat → Px.R α} {σ : St} (h : (σ.lift n kk g).2.ok = true) : (∃ a, (σ.lift n kk g).1 = some a) ∧ σ.ok = true := by
 cases σ with
 | dead z p o => cases h
 | live ts o k =>
  rcases lift_kcases n kk g ts o k with ⟨a, r, h1, h2⟩ | ⟨z, r, h1, h2⟩
  · rw [h2]; exact ⟨⟨a, rfl⟩, rfl⟩
  · rw [h2] at h; cases h
theorem brace_live {n : Nat} {σ : St} (h : (brace n σ).ok = true) : σ.ok = true := by
 cases σ with
 | dead z p o => exact h
 | live ts o k => rfl
theorem name_of {n : Nat} {ts : List Tok} (h : ((((St.live ts 0 0).want n [102, 110]).name n).want n [40]).ok = true) : (St.live ts 0 0).want n [102, 110] = .live ts.tail 0 0 ∧ Px.isName ts.tail = true := by
 have h1 := want_was h
 cases hs : Px.sees ts [102, 110] with
 | false => rw [St.want_no hs] at h1; cases h1
 | true =>
  rw [St.want_live hs] at h1 ⊢
  exact ⟨rfl, name_ok h1⟩
theorem SsAt.down {lo X X' : Nat} {w : World} {p : List Sm × Nat} {v : Value} (h : SsAt lo w X p v) (hx : X' ≤ X) : SsAt 0 w X' p v := by
 obtain ⟨B, h1, h2⟩ := h
 exact ⟨B, smc_low hx h1, fun g hg => ⟨Nat.zero_le _, (h2 g hg).2⟩⟩
theorem fn_live {w wv W9 : World} {b n X0 X1 base f lo : Nat} {ts : List Tok} {s : Tx} {sx : ByteArray} {σ3 : St} {PP LL : Option (List Vr) × St} {BB : Option (List Sm × Nat) × St} {vp vl vb : Value} {o9 k9 : Nat}
 (hX : X0 = w.heap.size ∧ X0 < b ∧ X1 = b + 1) (hsx : sx = strO s) (hN : ∀ ts' o k, (St.live ts 0 0).want n [102, 110] = .live ts' o k → Px.isName ts' = true → s = Px.txt ts' 0)
 (h3 : σ3 = (((St.live ts 0 0).want n [102, 110]).name n).want n [40]) (hP : PP = σ3.lift n kI (vparams f)) (hL : LL = (brace n PP.2).lift n kI (vlocals f [])) (hB : BB = LL.2.lift n kS (sstmts f [])) (h7 : .live [] o9 k9 = BB.2)
 (hps : ∀ ps, PP.1 = some ps → wv.ownsRow (X1 + 1) 123 2 vp ps.length (varCells ps)) (hls : ∀ q, LL.1 = some q → wv.ownsRow base 123 2 vl q.length (varCells q)) (ha : ∀ p, BB.1 = some p → SsAt lo wv X1 p vb) (hk : Keeps [] w wv) (hk2 : Keeps [X0] wv W9) (hbase : X1 < base) :
 AttP FnAt (.agg #[.string .empty, .slice none 0 0, .slice none 0 0, .slice none 0 0]) w (fnGot n (Px.txt ts.tail 0) PP.1 LL.1 BB.1 (.live [] o9 k9)) (.returned (.tuple #[.agg (fRow sx vp vl vb).toArray, .int .i64 0, .int .i64 0])) W9 := by
 have hb : BB.2.ok = true := by rw [← h7]; rfl
 rw [hB] at hb
 obtain ⟨⟨p, hp⟩, hl⟩ := lift_live hb
 rw [← hB] at hp
 rw [hL] at hl
 obtain ⟨⟨ls, hls'⟩, hbr⟩ := lift_live hl
 rw [← hL] at hls'
 have hpp := brace_live hbr
 rw [hP] at hpp
 obtain ⟨⟨ps, hps'⟩, h3'⟩ := lift_live hpp
 rw [← hP] at hps'
 rw [h3] at h3'
 obtain ⟨hw, hn⟩ := name_of h3'
 have hs := hN _ _ _ hw hn
 refine ⟨_, rfl, hk.hi hk2 (by simp; omega), ?_⟩
 have hval : (fnGot n (Px.txt ts.tail 0) PP.1 LL.1 BB.1 (.live [] o9 k9)).val = some (⟨Px.txt ts.tail 0, ps, ls, p.1⟩, p.2) := by rw [hp, hls', hps']; rfl
 rw [hval]
 have hrow : ∀ {base' : Nat} {v : Value} {l : List Vr}, X0 < base' → wv.ownsRow base' 123 2 v l.length (varCells l) → VarsAt W9 X0 l v := fun h1 h2 => own_low (owned_keep h2 hk2 (fun g hg hm => by have := (rowOf h2 hg).1; simp at hm <;> omega)) (by omega)
 exact ⟨X0, by omega, vp, vl, vb, by rw [hsx, hs], hrow (by omega) (hps ps hps'), hrow (by omega) (hls ls hls'), (SsAt.keepS2 (ha p hp) hk2 (by simp; omega)).down (by omega)⟩
theorem SA.deadAt {w : World} {b n z p o : Nat} (h : SA w b n (.dead z p o)) : w.cell? ⟨b, 4, none⟩ = some (.int .i64 (p : Int)) := by
 obtain ⟨_, _, A, L, cap, i, k, h3⟩ := h
 have := row_cell h3 4
 simpa using this
theorem ToksIn.lt {w : World} {g : Nat} {A : Option Addr} {ts : List Tok} (h : ToksIn w g A ts) (h0 : ts ≠ []) : g < w.heap.size := by
 rcases h with h | ⟨off, _, hc⟩
 · exact absurd h h0
 ·
  match ts, h0, hc with
  | t :: r, _, hc => exact World.block_lt_of_cell? w _ (hc 0 (by simp)).1
theorem SA.make {w : World} {g : Nat} {A : Option Addr} {ts : List Tok} {c n : Nat} (ht : ToksIn w g A ts) (hg : ts ≠ [] → g < w.heap.size) (hgood : Px.Good ts) (hpos : 0 < w.heap.size) {cs : Array Value} {T : TypeId} :
 SA ((w.alloc (.cells #[.slice A ts.length c, .int .i64 0, .int .i64 (n : Int), .int .i64 0, .int .i64 0, .int .i64 0, .int .i64 0] 81)).alloc (.cells cs T)) w.heap.size n (.live ts 0 0) := by
 have hk : Keeps [] w ((w.alloc (.cells #[.slice A ts.length c, .int .i64 0, .int .i64 (n : Int), .int .i64 0, .int .i64 0, .int .i64 0, .int .i64 0] 81)).alloc (.cells cs T)) := ((Keeps.refl _ _).alloc _).alloc _
 have hrow := block_keep (heap_alloc_new w (.cells #[.slice A ts.length c, .int .i64 0, .int .i64 (n : Int), .int .i64 0, .int .i64 0, .int .i64 0, .int .i64 0] 81)) ((Keeps.refl [] _).alloc (.cells cs T)) (by simp)
 by_cases h0 : ts = []
 ·
  subst h0
  exact ⟨A, c, 0, [], 0, hrow, .inl rfl, rfl, Nat.le_refl _, hpos, trivial, trivial, hgood⟩
 · exact ⟨A, c, g, ts, 0, hrow, ht.keep hk (by simp), rfl, Nat.zero_le _, hg h0, trivial, trivial, hgood⟩
theorem rfunc_none (w : World) (l : Tx) (hl : l.length ≤ 5000) (ts : List Tok) (pos : Nat) (ho : Lx.toks l = ⟨ts, pos, 0⟩) {n f : Nat} (hn : n = l.length) (hf : f = Px.fuelOf ts) {σ3 : St} (h3 : σ3 = (((St.live ts 0 0).want n [102, 110]).name n).want n [40]) {PP LL : Option (List Vr) × St} {BB : Option (List Sm × Nat) × St} (hP : PP = σ3.lift n kI (vparams f)) (hL : LL = (brace n PP.2).lift n kI (vlocals f [])) (hB : BB = LL.2.lift n kS (sstmts f [])) (hsee : σ3.sees [41] = true) :
 Calls Tryz.prog 14 #[.string (strO l)] w (AttP FnAt (.agg #[.string .empty, .slice none 0 0, .slice none 0 0, .slice none 0 0]) w (fnGot n (Px.txt ts.tail 0) PP.1 LL.1 BB.1 BB.2)) := by
 obtain ⟨X0, hX0⟩ : ∃ x, x = w.heap.size := ⟨_, rfl⟩
 have hgood : Px.Good ts := by have := toks_good l; rw [ho] at this; exact this
 have HLX := Hd (rtokens_any (w.alloc (.cells #[.string ⟨#[]⟩, .slice none 0 0, .slice none 0 0, .slice none 0 0] 26)) l hl)
 rw [ho] at HLX
 have HZ0 := Hd (heap_alloc_new w (.cells #[.string ⟨#[]⟩, .slice none 0 0, .slice none 0 0, .slice none 0 0] 26))
 obtain ⟨s, hs⟩ : ∃ s, s = strO l := ⟨_, rfl⟩
 have hsz : s.size = l.length := by rw [hs, strO_len]
 rw [← hs] at HLX ⊢
 have HW1 := Hd (fun (w' : World) (b : Nat) (h : SA w' b n (.live ts 0 0)) => qwant_any w' b n _ h [102, 110])
 have HNA := Hd (fun (w' : World) (b : Nat) (h : SA w' b n ((St.live ts 0 0).want n [102, 110])) => qname_any w' b n _ h)
 have HW2 := Hd (fun (w' : World) (b : Nat) (h : SA w' b n (((St.live ts 0 0).want n [102, 110]).name n)) => qwant_any w' b n _ h [40])
 rw [← h3] at HW2
 have HT1 := Hd (fun (w' : World) (b : Nat) (h : SA w' b n σ3) => qtake_any w' b n _ h [41])
 have hrt := hrt_of h3
 have HRT := Hd hrt
 have hfl : 4 * ts.length + 12 ≤ f := by rw [hf]; exact Nat.le_refl _
 have HFL := Hd hfl
 have HP9 := Hd hP
 have HL9 := Hd hL
 have HB9 := Hd hB
 have H39 := Hd h3
 have hn5 : n ≤ 5000 := by omega
 have HNL := Hd hn
 have hpp : PP = (some [], σ3.adv) := by
  rw [hP]
  obtain ⟨g, hg⟩ : ∃ g, f = g + 1 := ⟨f - 1, by omega⟩
  rw [hg]
  cases σ3 with
  | dead z p o => cases hsee
  | live ts' o' k' => exact params_none hsee
 unfold St.take at HT1
 rw [if_pos hsee, hsee] at HT1
 have HPP := Hd hpp
 clear hpp hsee
 have HHL := Hd hl
 have HGD := Hd hgood
 have HXZ := Hd hX0
 have HGL := Hd hgood.len
 clear ho hP hL hB h3 hrt hfl hf hn hs hgood hl hX0
 go_enter Tryz.func14, Tryz.ntmps14
 go_wp2_with fail
 refine (HLX.out).mono ?_
 rintro e w1 ⟨A, c, g, rfl, htk, hg, hk⟩
 have HZ0 := Hd (block_keep HZ0.out hk (by simp))
 have HTK := Hd htk
 have HG9 := Hd hg
 have HKK := Hd (((Keeps.refl [] w).alloc (.cells #[.string ⟨#[]⟩, .slice none 0 0, .slice none 0 0, .slice none 0 0] 26)).trans hk (fun _ h _ => h))
 have hsz1 : w.heap.size < w1.heap.size := by have := hk.size; simp at this; omega
 have HSZ1 := Hd hsz1
 clear htk hg hk hsz1
 go_upto_region 6 with fail
 obtain ⟨b, hb⟩ : ∃ b, b = w1.heap.size := ⟨_, rfl⟩
 obtain ⟨X1, hX1⟩ : ∃ x, x = b + 1 := ⟨_, rfl⟩
 refine stageF (w := w) (b := b) (n := n) (σ := .live ts 0 0) (X0 := X0) (X1 := X1) (T := 26) (cs0 := #[.string ⟨#[]⟩, .slice none 0 0, .slice none 0 0, .slice none 0 0]) (cs1 := #[.string ⟨#[]⟩, .slice none 0 0, .slice none 0 0, .slice none 0 0]) ?_ ?_ ?_ ?_ ?_
 · exact (HKK.out.alloc _).alloc _
 · rw [HXZ.out]; exact block_keep HZ0.out (((Keeps.refl [] w1).alloc _).alloc _) (by simp)
 ·
  rw [hX1, hb]
  have := heap_alloc_new (w1.alloc (.cells #[.slice A ts.length c, .int .i64 0, .int .i64 (n : Int), .int .i64 0, .int .i64 0, .int .i64 0, .int .i64 0] 81)) (.cells #[.string ⟨#[]⟩, .slice none 0 0, .slice none 0 0, .slice none 0 0] 26)
  rw [show (w1.alloc (.cells #[.slice A ts.length c, .int .i64 0, .int .i64 (n : Int), .int .i64 0, .int .i64 0, .int .i64 0, .int .i64 0] 81)).heap.size = w1.heap.size + 1 by simp] at this
  rw [HNL.out] at this
  first | exact this | (rw [hsz]; exact this)
 ·
  rw [hb, HNL.out]
  exact SA.make HTK.out (fun h => HTK.out.lt h) HGD.out (by have := HSZ1.out; omega)
 intro v0 hk hb0 hb1 hs
 have HX := Hd (show X0 = w.heap.size ∧ X0 < b ∧ X1 = b + 1 from ⟨HXZ.out, by have := HSZ1.out; have := HXZ.out; omega, hX1⟩)
 have HK := Hd hk
 have HB0 := Hd hb0
 have HB := Hd hb1
 have HS := Hd hs
 have hx0 : w.heap.size = X0 := HX.out.1.symm
 have hx1 : b + 1 = X1 := HX.out.2.2.symm
 simp only [← hb, hx0, hx1]
 clear hk hb0 hb1 hs hx0 hx1 hb hX1 HTK HG9 HKK HSZ1 HZ0 HLX HGD
 go_wp2_with fail
 refine (cV (HW1.out _ b HS.out) HK HB HB0) fun v1 HK HB HB0 HS => ?_
 go_wp2_with fail
 refine (HNA.out _ b HS.out).mono ?_
 rintro e v2 ⟨⟨s, rfl, hnm⟩, hs, hk⟩
 have HK := zH HK hk
 have HB := zB HB hk
 have HB0 := zB HB0 hk
 have HN := Hd hnm
 obtain ⟨sx, hsx⟩ : ∃ y, y = strO s := ⟨_, rfl⟩
 have HSX := Hd hsx
 rw [← hsx]
 have HS := Hd hs
 clear hs hk hnm hsx
 obtain ⟨cc0, ff0⟩ := rowi HB.out 0
 have hk : Keeps [X1] v2 (v2.setCell ⟨X1, 0, none⟩ (.string sx)) := (Keeps.refl [X1] _).set1 _ _
 have HB := Hd (show (v2.setCell ⟨X1, 0, none⟩ (.string sx)).heap[X1]? = some (.cells (fRow sx (.slice none 0 0) (.slice none 0 0) (.slice none 0 0)).toArray 26 (0, 0)) from row_set HB.out 0 _)
 have HB0 := zB HB0 hk
 have HK := zH HK hk
 have HS := zI HS hk
 clear hk
 go_wp2_with fail
 refine (cV (HW2.out _ b HS.out) HK HB HB0) fun v3 HK HB HB0 HS => ?_
 clear cc0 ff0
 go_wp2_with fail
 refine (cV (HT1.out _ b HS.out) HK HB HB0) fun v4 HK HB HB0 HS => ?_
 have HPS := Hd (show ∀ ps, PP.1 = some ps → v4.ownsRow (X1 + 1) 123 2 (.slice none 0 0) ps.length (varCells ps) from fun ps h => by
  rw [HPP.out] at h
  obtain rfl := Option.some.inj h
  exact World.ownsRow_nil _ _ _ _)
 have HS := Hd (show SA v4 b n PP.2 from by rw [HPP.out]; exact HS.out)
 have HROOT0 := Hd (show Root ts.length PP.2 from by rw [HPP.out]; exact HRT.out.adv)
 have HTS := Hd (show ts.length ≤ 5000 from HGL.out)
 have HI := Hd (fun w' (h : SA w' b n PP.2) => qis_any w' b n PP.2 h [123])
 by_cases hbr : PP.2.sees [123] = true
 ·
  rw [hbr] at HI
  obtain ⟨r0, hr0, hrl0⟩ : ∃ r, PP.2 = .live r 0 0 ∧ r.length ≤ ts.length := by
   rcases HROOT0.out with h | ⟨z, p, h⟩
   · exact h
   · rw [h] at hbr; cases hbr
  have hb9 : Px.sees r0 [123] = true := by rw [hr0] at hbr; exact hbr
  have hbrace : brace n PP.2 = .live r0.tail 1 0 := by unfold brace; rw [if_pos hbr, hr0]; rfl
  obtain ⟨t0, r1, rfl, -⟩ := sees_cons (by simp) hb9
  have HO := Hd (fun w' (h : SA w' b n (.live (t0 :: r1) 0 0)) => qopen_any w' b n _ h (fun ts' o' k' e => by injection e; omega))
  have hop : (St.live (t0 :: r1) 0 0).open n = (true, .live (t0 :: r1) 1 0) := by simp [St.open]
  rw [hop] at HO
  have HBR := Hd hbrace
  have HR0 := Hd hr0
  have HROOT := Hd (show (∃ r, brace n PP.2 = .live r 1 0 ∧ r.length ≤ ts.length) ∨ ∃ z p, brace n PP.2 = .dead z p 0 from .inl ⟨r1, hbrace, by simp at hrl0; omega⟩)
  clear hbr hb9 hbrace hop hr0 hrl0
  go_wp2_with fail
  refine (HI.out _ HS.out).mono ?_
  rintro e v5 ⟨rfl, hk⟩
  have HK := zH HK hk
  have HB := zB HB hk
  have HB0 := zB HB0 hk
  have HPS := zP HPS hk
  have HS := Hd (show SA v5 b n (.live (t0 :: r1) 0 0) from by rw [← HR0.out]; exact HS.out.keep hk)
  clear hk
  go_wp2_with fail
  refine (HO.out _ HS.out).mono ?_
  rintro e v6 ⟨rfl, hs, hk⟩
  have HK := zH HK hk
  have HB := zB HB hk
  have HB0 := zB HB0 hk
  have HPS := zP HPS hk
  have HS := Hd hs
  clear hs hk
  obtain ⟨g2, off2, L2, cap2, i2, d0, d1, hi2, hL2, q0, q1, q2, qf, hq⟩ := HS.out.prev
  have HS := Hd (show SA (v6.setCell ⟨b, 1, none⟩ (.int .i64 ((i2 : Int) + 1))) b n (brace n PP.2) from by rw [HBR.out]; exact hq)
  have hk : Keeps [b] v6 (v6.setCell ⟨b, 1, none⟩ (.int .i64 ((i2 : Int) + 1))) := (Keeps.refl [b] _).set1 _ _
  have HK := zH HK hk
  have HB := zB HB hk
  have HB0 := zB HB0 hk
  have HPS := zP HPS hk
  clear hk hq q0 q1 q2 d0
  have HBASE := Hd (show X1 < (v6.setCell ⟨b, 1, none⟩ (.int .i64 ((i2 : Int) + 1))).heap.size from block_lt HB.out)
  obtain ⟨base, hbase⟩ : ∃ x, x = (v6.setCell ⟨b, 1, none⟩ (.int .i64 ((i2 : Int) + 1))).heap.size := ⟨_, rfl⟩
  have HVB := Hd (show ∀ ps, PP.1 = some ps → ∀ g, ((.slice none 0 0) : Value).ownBlock = some g → g < base from fun ps h g hg => by
   obtain ⟨_, cur, hc⟩ := rowOf (HPS.out ps h) hg
   rw [hbase]; exact block_lt hc)
  have HBS := Hd (show X1 < base ∧ base ≤ (v6.setCell ⟨b, 1, none⟩ (.int .i64 ((i2 : Int) + 1))).heap.size from ⟨by rw [hbase]; exact HBASE.out, by omega⟩)
  clear hbase
  go_wp2_with fail
  go_loopw [10] (fun _ wr => ∃ (σ : St) (A : Option Addr) (m c : Nat) (ll : List Vr), SA wr b n σ ∧ Keeps [] w wr ∧ wr.heap[X0]? = some (.cells #[.string ⟨#[]⟩, .slice none 0 0, .slice none 0 0, .slice none 0 0] 26 (0, 0)) ∧ wr.heap[X1]? = some (.cells (fRow sx (.slice none 0 0) (.slice A m c) (.slice none 0 0)).toArray 26 (0, 0)) ∧ wr.ownsRow base 123 2 (.slice A m c) ll.length (varCells ll) ∧ (∀ ps, PP.1 = some ps → wr.ownsRow (X1 + 1) 123 2 ((.slice none 0 0)) ps.length (varCells ps)) ∧ base ≤ wr.heap.size ∧ ((∃ g r, σ = .live r 1 0 ∧ r.length + 1 ≤ g ∧ ll.length + r.length ≤ 5000 ∧ r.length ≤ ts.length ∧ LL = σ.lift n kI (vlocals g ll)) ∨ (∃ z p o, σ = .dead z p o ∧ o ≤ 1000 ∧ LL = (none, σ)))) (fun _ wr => qrank wr b)
  case atStart => exact ⟨_, none, 0, 0, [], HS.out, HK.out, HB0.out, HB.out, World.ownsRow_nil _ _ _ _, HPS.out, HBS.out.2, loop2_start HL9.out HROOT.out HFL.out HTS.out⟩
  case round =>
   obtain ⟨σ, A, m, c, ll, hs, hk, hb0, hb1, hown, hps, hbz, hc⟩ := hrel
   have HI1 := Hd (fun w' (h : SA w' b n σ) => qis_any w' b n σ h [118, 97, 114])
   have HI2 := Hd (fun w' (h : SA w' b n σ) => qis_any w' b n σ h [112, 116, 114])
   have HS := Hd hs
   have HK := Hd hk
   have HB0 := Hd hb0
   have HB := Hd hb1
   have HLS := Hd hown
   have HPS := Hd hps
   have HBZ := Hd hbz
   have HC := Hd hc
   have HS0 := Hd hs
   clear hs hk hb0 hb1 hown hps hbz hc
   cases hv : σ.sees [118, 97, 114] with
   | true =>
    have hp : σ.sees [112, 116, 114] = false := by
     rcases HC.out with ⟨g, r, rfl, _⟩ | ⟨z, p, o, rfl, _⟩
     · exact sees_other (show Px.sees r [118, 97, 114] = true from hv) (by decide)
     · cases hv
    rw [hv] at HI1
    rw [hp] at HI2
    obtain ⟨g, r, hσ, hg, hll, hrl, hLL⟩ : ∃ g r, σ = .live r 1 0 ∧ r.length + 1 ≤ g ∧ ll.length + r.length ≤ 5000 ∧ r.length ≤ ts.length ∧ LL = σ.lift n kI (vlocals g ll) := by
     rcases HC.out with h | ⟨z, p, o, rfl, _⟩
     · exact h
     · cases hv
    subst hσ
    have hsee : Px.sees r [118, 97, 114] = true ∨ Px.sees r [112, 116, 114] = true := .inl hv
    have hq : Px.sees r [112, 116, 114] = false := hp
    match g, hg with
    | g + 1, hg =>
    have hst := locals_step (n := n) (g := g) (o := 1) (k := 0) (l := ll) hsee
    rw [hq] at hst
    have HST := Hd hst
    have HLLE := Hd hLL
    have hrr : ∃ t r2, r = t :: r2 := by
     rcases hsee with h | h
     · obtain ⟨t, r2, h, _⟩ := sees_cons (by simp) h; exact ⟨t, r2, h⟩
     · obtain ⟨t, r2, h, _⟩ := sees_cons (by simp) h; exact ⟨t, r2, h⟩
    obtain ⟨t, r2, rfl⟩ := hrr
    simp only [List.tail_cons] at HST
    have hm9 : m = ll.length := by obtain ⟨_, _, h⟩ := row_slice HLS.out; injection h
    subst hm9
    have HM := Hd (fun w' (h : SA w' b n (.live r2 1 0)) (ho : w'.ownsRow base 123 2 (.slice A ll.length c) ll.length (varCells ll)) (hb : base ≤ w'.heap.size) => qmore_any w' b n _ h ll _ base ho ⟨by have := HX.out; have := HBS.out; omega, hb⟩ (by omega) false 20 (by omega))
    have HWW := Hd (fun w' (h : SA w' b n (dcl n 20 ll.length (.live r2 1 0))) => qwant_any w' b n _ h [59])
    clear hv hp hLL hsee hq hst HC
    go_wp2_with fail
    refine (cK (HI1.out _ HS.out) HK HB HB0 HS) fun v1 HK HB HB0 HS hk => ?_
    have HLS := zO HLS hk
    have HPS := zP HPS hk
    have HBZ := zZ HBZ hk
    clear hk
    go_wp2_with fail
    refine (cK (HI2.out _ HS.out) HK HB HB0 HS) fun v2 HK HB HB0 HS hk => ?_
    have HLS := zO HLS hk
    have HPS := zP HPS hk
    have HBZ := zZ HBZ hk
    clear hk
    obtain ⟨g2, off2, L2, cap2, i2, d0, d1, hi2, hL2, q0, q1, q2, qf, hq⟩ := HS.out.prev
    have HS := Hd hq
    have hk : Keeps [b] v2 (v2.setCell ⟨b, 1, none⟩ (.int .i64 ((i2 : Int) + 1))) := (Keeps.refl [b] _).set1 _ _
    have HK := zH HK hk
    have HB := zB HB hk
    have HB0 := zB HB0 hk
    have HLS := zO HLS hk
    have HPS := zP HPS hk
    have HBZ := Hd (show base ≤ (v2.setCell ⟨b, 1, none⟩ (.int .i64 ((i2 : Int) + 1))).heap.size by have := HBZ.out; have := hk.size; omega)
    clear hk hq q0 q1 q2 d0
    obtain ⟨cc2, ff2⟩ := rowi HB.out 2
    have hbx : b ≠ X1 := zX
    have hxb : X1 ≠ b := zX
    go_wp2_with fail
    refine (HM.out _ HS.out HLS.out HBZ.out).mono ?_
    rintro e v3 ⟨v', rfl, ⟨A2, m2, c2, rfl⟩, hk, hs, ll2, hown, hlen, hnew⟩
    have hin : ∀ y ∈ (b :: (Value.slice A ll.length c).ownBlock.toList), y = b ∨ base ≤ y := fun y hy => by
     rcases List.mem_cons.1 hy with h | h
     · exact .inl h
     · exact .inr (rowOf HLS.out (by simpa using h)).1
    have HB := zj HB hk
    have HB0 := zj HB0 hk
    have HPS := Hd (fun ps h => owned_keep (HPS.out ps h) hk (fun g hg hm => by have := hin _ hm; have := (rowOf (HPS.out ps h) hg).1; have := HVB.out ps h g hg; have := HX.out; omega))
    have HK := zk HK hk
    have HBZ := zZ HBZ hk
    have HS := Hd hs
    have HLS := Hd hown
    have HNEW := Hd hnew
    have HLEN := Hd hlen
    have hm9 : m2 = ll2.length := by obtain ⟨_, _, h⟩ := row_slice hown; injection h
    subst hm9
    clear hk hs hown hnew hlen hin d1 qf cc2 ff2
    obtain ⟨cc2, ff2⟩ := rowi HB.out 2
    have hk : Keeps [X1] v3 (v3.setCell ⟨X1, 2, none⟩ (.slice A2 ll2.length c2)) := (Keeps.refl [X1] _).set1 _ _
    have HB := Hd (show (v3.setCell ⟨X1, 2, none⟩ (.slice A2 ll2.length c2)).heap[X1]? = some (.cells (fRow sx (.slice none 0 0) (.slice A2 ll2.length c2) (.slice none 0 0)).toArray 26 (0, 0)) from row_set HB.out 2 _)
    have HB0 := zB HB0 hk
    have HK := zH HK hk
    have HS := zI HS hk
    have HLS := zO HLS hk
    have HPS := zP HPS hk
    clear hk
    have HBZ := Hd (show base ≤ (v3.setCell ⟨X1, 2, none⟩ (.slice A2 ll2.length c2)).heap.size by have := HBZ.out; first | omega | (simp; omega))
    go_wp2_with fail
    refine (HWW.out _ HS.out).mono ?_
    rintro e v4 ⟨rfl, hs, hk⟩
    have HK := zH HK hk
    have HB := zB HB hk
    have HB0 := zB HB0 hk
    have HLS := zO HLS hk
    have HPS := zP HPS hk
    have HBZ := zZ HBZ hk
    have HS := Hd hs
    clear hs hk cc2 ff2
    go_wp2
    go_roundw
    ·
     refine ⟨_, A2, _, c2, ll2, HS.out, HK.out, HB0.out, HB.out, HLS.out, HPS.out, HBZ.out, ?_⟩
     rcases HST.out with ⟨r3, q1, q2, q3, q4, q5⟩ | ⟨z, p, q4, q5⟩
     ·
      have hl2 := HNEW.out r2 1 0 rfl q2 q3
      subst hl2
      exact .inl ⟨g, r3, q4, by simp at q1 hg; omega, by simp at q1 hll ⊢; omega, by simp at q1 hrl; omega, by rw [q4]; exact HLLE.out.trans q5⟩
     · exact .inr ⟨z, p, 1, q4, by omega, by rw [q4]; exact HLLE.out.trans q5⟩
    ·
     rw [HS.out.rank, HS0.out.rank]
     rcases HST.out with ⟨r3, q1, q2, q3, q4, q5⟩ | ⟨z, p, q4, q5⟩
     · rw [q4]; simp only [St.rank]; omega
     · rw [q4]; show 0 < 1 + _; omega
   | false =>
    cases hp : σ.sees [112, 116, 114] with
    | true =>
     rw [hv] at HI1
     rw [hp] at HI2
     obtain ⟨g, r, hσ, hg, hll, hrl, hLL⟩ : ∃ g r, σ = .live r 1 0 ∧ r.length + 1 ≤ g ∧ ll.length + r.length ≤ 5000 ∧ r.length ≤ ts.length ∧ LL = σ.lift n kI (vlocals g ll) := by
      rcases HC.out with h | ⟨z, p, o, rfl, _⟩
      · exact h
      · cases hp
     subst hσ
     have hsee : Px.sees r [118, 97, 114] = true ∨ Px.sees r [112, 116, 114] = true := .inr hp
     have hq : Px.sees r [112, 116, 114] = true := hp
     match g, hg with
     | g + 1, hg =>
     have hst := locals_step (n := n) (g := g) (o := 1) (k := 0) (l := ll) hsee
     rw [hq] at hst
     have HST := Hd hst
     have HLLE := Hd hLL
     have hrr : ∃ t r2, r = t :: r2 := by
      rcases hsee with h | h
      · obtain ⟨t, r2, h, _⟩ := sees_cons (by simp) h; exact ⟨t, r2, h⟩
      · obtain ⟨t, r2, h, _⟩ := sees_cons (by simp) h; exact ⟨t, r2, h⟩
     obtain ⟨t, r2, rfl⟩ := hrr
     simp only [List.tail_cons] at HST
     have hm9 : m = ll.length := by obtain ⟨_, _, h⟩ := row_slice HLS.out; injection h
     subst hm9
     have HM := Hd (fun w' (h : SA w' b n (.live r2 1 0)) (ho : w'.ownsRow base 123 2 (.slice A ll.length c) ll.length (varCells ll)) (hb : base ≤ w'.heap.size) => qmore_any w' b n _ h ll _ base ho ⟨by have := HX.out; have := HBS.out; omega, hb⟩ (by omega) true 20 (by omega))
     have HWW := Hd (fun w' (h : SA w' b n (dcl n 20 ll.length (.live r2 1 0))) => qwant_any w' b n _ h [59])
     clear hv hp hLL hsee hq hst HC
     go_wp2_with fail
     refine (cK (HI1.out _ HS.out) HK HB HB0 HS) fun v1 HK HB HB0 HS hk => ?_
     have HLS := zO HLS hk
     have HPS := zP HPS hk
     have HBZ := zZ HBZ hk
     clear hk
     go_wp2_with fail
     refine (cK (HI2.out _ HS.out) HK HB HB0 HS) fun v2 HK HB HB0 HS hk => ?_
     have HLS := zO HLS hk
     have HPS := zP HPS hk
     have HBZ := zZ HBZ hk
     clear hk
     go_wp2_with fail
     refine (cK (HI2.out _ HS.out) HK HB HB0 HS) fun v3 HK HB HB0 HS hk => ?_
     have HLS := zO HLS hk
     have HPS := zP HPS hk
     have HBZ := zZ HBZ hk
     clear hk
     obtain ⟨g2, off2, L2, cap2, i2, d0, d1, hi2, hL2, q0, q1, q2, qf, hq⟩ := HS.out.prev
     have HS := Hd hq
     have hk : Keeps [b] v3 (v3.setCell ⟨b, 1, none⟩ (.int .i64 ((i2 : Int) + 1))) := (Keeps.refl [b] _).set1 _ _
     have HK := zH HK hk
     have HB := zB HB hk
     have HB0 := zB HB0 hk
     have HLS := zO HLS hk
     have HPS := zP HPS hk
     have HBZ := Hd (show base ≤ (v3.setCell ⟨b, 1, none⟩ (.int .i64 ((i2 : Int) + 1))).heap.size by have := HBZ.out; have := hk.size; omega)
     clear hk hq q0 q1 q2 d0
     obtain ⟨cc2, ff2⟩ := rowi HB.out 2
     have hbx : b ≠ X1 := zX
     have hxb : X1 ≠ b := zX
     go_wp2_with fail
     refine (HM.out _ HS.out HLS.out HBZ.out).mono ?_
     rintro e v4 ⟨v', rfl, ⟨A2, m2, c2, rfl⟩, hk, hs, ll2, hown, hlen, hnew⟩
     have hin : ∀ y ∈ (b :: (Value.slice A ll.length c).ownBlock.toList), y = b ∨ base ≤ y := fun y hy => by
      rcases List.mem_cons.1 hy with h | h
      · exact .inl h
      · exact .inr (rowOf HLS.out (by simpa using h)).1
     have HB := zj HB hk
     have HB0 := zj HB0 hk
     have HPS := Hd (fun ps h => owned_keep (HPS.out ps h) hk (fun g hg hm => by have := hin _ hm; have := (rowOf (HPS.out ps h) hg).1; have := HVB.out ps h g hg; have := HX.out; omega))
     have HK := zk HK hk
     have HBZ := zZ HBZ hk
     have HS := Hd hs
     have HLS := Hd hown
     have HNEW := Hd hnew
     have HLEN := Hd hlen
     have hm9 : m2 = ll2.length := by obtain ⟨_, _, h⟩ := row_slice hown; injection h
     subst hm9
     clear hk hs hown hnew hlen hin d1 qf cc2 ff2
     obtain ⟨cc2, ff2⟩ := rowi HB.out 2
     have hk : Keeps [X1] v4 (v4.setCell ⟨X1, 2, none⟩ (.slice A2 ll2.length c2)) := (Keeps.refl [X1] _).set1 _ _
     have HB := Hd (show (v4.setCell ⟨X1, 2, none⟩ (.slice A2 ll2.length c2)).heap[X1]? = some (.cells (fRow sx (.slice none 0 0) (.slice A2 ll2.length c2) (.slice none 0 0)).toArray 26 (0, 0)) from row_set HB.out 2 _)
     have HB0 := zB HB0 hk
     have HK := zH HK hk
     have HS := zI HS hk
     have HLS := zO HLS hk
     have HPS := zP HPS hk
     clear hk
     have HBZ := Hd (show base ≤ (v4.setCell ⟨X1, 2, none⟩ (.slice A2 ll2.length c2)).heap.size by have := HBZ.out; first | omega | (simp; omega))
     go_wp2_with fail
     refine (HWW.out _ HS.out).mono ?_
     rintro e v5 ⟨rfl, hs, hk⟩
     have HK := zH HK hk
     have HB := zB HB hk
     have HB0 := zB HB0 hk
     have HLS := zO HLS hk
     have HPS := zP HPS hk
     have HBZ := zZ HBZ hk
     have HS := Hd hs
     clear hs hk cc2 ff2
     go_wp2
     go_roundw
     ·
      refine ⟨_, A2, _, c2, ll2, HS.out, HK.out, HB0.out, HB.out, HLS.out, HPS.out, HBZ.out, ?_⟩
      rcases HST.out with ⟨r3, q1, q2, q3, q4, q5⟩ | ⟨z, p, q4, q5⟩
      ·
       have hl2 := HNEW.out r2 1 0 rfl q2 q3
       subst hl2
       exact .inl ⟨g, r3, q4, by simp at q1 hg; omega, by simp at q1 hll ⊢; omega, by simp at q1 hrl; omega, by rw [q4]; exact HLLE.out.trans q5⟩
      · exact .inr ⟨z, p, 1, q4, by omega, by rw [q4]; exact HLLE.out.trans q5⟩
     ·
      rw [HS.out.rank, HS0.out.rank]
      rcases HST.out with ⟨r3, q1, q2, q3, q4, q5⟩ | ⟨z, p, q4, q5⟩
      · rw [q4]; simp only [St.rank]; omega
      · rw [q4]; show 0 < 1 + _; omega
    | false =>
     rw [hv] at HI1
     rw [hp] at HI2
     have hLL : LL.2 = σ ∧ (∀ q, LL.1 = some q → q = ll) ∧ LL.2.fits f 9 ∧ LL.2.few := by
      rcases HC.out with ⟨g, r, rfl, hg, hll, hrl, hLL⟩ | ⟨z, p, o, rfl, ho, hLL⟩
      ·
       match g, hg with
       | g + 1, _ =>
       rw [hLL, locals_done hv hp]
       exact ⟨rfl, fun q h => (Option.some.inj h).symm, ⟨by omega, by have := HFL.out; omega⟩, Nat.zero_le _⟩
      · rw [hLL]; exact ⟨rfl, (fun q h => by cases h), ho, trivial⟩
     have HFIT := Hd hLL.2.2.1
     have HFEW := Hd hLL.2.2.2
     have HS := Hd (show SA wr b n LL.2 from by rw [hLL.1]; exact HS.out)
     have HLS := Hd (show ∀ q, LL.1 = some q → wr.ownsRow base 123 2 (.slice A m c) q.length (varCells q) from fun q h => by rw [hLL.2.1 q h]; exact HLS.out)
     have HI1 := Hd (fun w' (h : SA w' b n LL.2) => HI1.out w' (by rw [← hLL.1]; exact h))
     have HI2 := Hd (fun w' (h : SA w' b n LL.2) => HI2.out w' (by rw [← hLL.1]; exact h))
     clear hv hp hLL HC HS0
     go_wp2_with fail
     refine (cK (HI1.out _ HS.out) HK HB HB0 HS) fun v1 HK HB HB0 HS hk => ?_
     have HLS := zQ HLS hk
     have HPS := zP HPS hk
     clear hk
     go_wp2_with fail
     refine (cK (HI2.out _ HS.out) HK HB HB0 HS) fun v2 HK HB HB0 HS hk => ?_
     have HLS := zQ HLS hk
     have HPS := zP HPS hk
     clear hk
     have hq9 := (qsc f).stmts v2 b n LL.2 X1 HS.out HFIT.out HFEW.out zX (block_lt HB.out)
     rw [← HB9.out] at hq9
     have HQ9 := Hd hq9
     clear hq9
     go_wp2_with fail
     refine (HQ9.out).mono ?_
     rintro e v3 ⟨v, rfl, ⟨A9, n9, c9, rfl⟩, hk, hs, ha⟩
     have HK := zH HK hk
     have HB := zB HB hk
     have HB0 := zB HB0 hk
     have HLS := zQ HLS hk
     have HPS := zP HPS hk
     have HA := Hd ha
     have HS := Hd hs
     clear hk hs ha
     obtain ⟨cc3, ff3⟩ := rowi HB.out 3
     have hk : Keeps [X1] v3 (v3.setCell ⟨X1, 3, none⟩ (.slice A9 n9 c9)) := (Keeps.refl [X1] _).set1 _ _
     have HB := Hd (show (v3.setCell ⟨X1, 3, none⟩ (.slice A9 n9 c9)).heap[X1]? = some (.cells (fRow sx (.slice none 0 0) (.slice A m c) (.slice A9 n9 c9)).toArray 26 (0, 0)) from row_set HB.out 3 _)
     have HB0 := zB HB0 hk
     have HK := zH HK hk
     have HS := zI HS hk
     have HLS := zQ HLS hk
     have HPS := zP HPS hk
     have HA := Hd (fun q h => SsAt.keepS2 (HA.out q h) hk zY)
     clear hk
     obtain ⟨σ7, h7⟩ : ∃ x, x = BB.2 := ⟨_, rfl⟩
     rw [← h7] at HS
     have H7 := Hd h7
     clear h7
     cases σ7 with
     | dead z9 p9 o9 =>
      have c3 : (v3.setCell ⟨X1, 3, none⟩ (.slice A9 n9 c9)).cell? ⟨b, 3, none⟩ = some (.int .i64 (z9 : Int)) := HS.out.flag
      have hz : ((z9 : Int) == 0) = false := by have := HS.out.1; simp; omega
      have hz1 : ((z9 : Int) != 0) = true := by have := HS.out.1; simp; omega
      have hz' : decide ((z9 : Int) = 0) = false := by have := HS.out.1; simp; omega
      have c4 := SA.deadAt HS.out
      go_wp2
      go_region
      obtain ⟨c00, f00, c01, f01, c02, f02, c03, f03⟩ := row4 HB0.out
      have hne1 : X0 ≠ X1 := zX
      have hne2 : X1 ≠ X0 := zX
      have hne3 : X0 ≠ b := zX
      have hne4 : b ≠ X0 := zX
      go_wp2
      go_region
      go_wp2
      refine bodyPost_ret (v := .tuple #[.agg #[.string ⟨#[]⟩, .slice none 0 0, .slice none 0 0, .slice none 0 0], .int .i64 (p9 : Int), .int .i64 (z9 : Int)]) (by simp [results, Tryz.results14, go_sem, c00, c01, c02, c03]) rfl ?_
      refine setsEnd (S := [X0]) (w := (v3.setCell ⟨X1, 3, none⟩ (.slice A9 n9 c9))) ?_ ?_
      · exact zW
      ·
       intro W9 hk
       rw [← H7.out]
       exact ⟨_, rfl, HK.out.hi hk zY, rfl⟩
     | live t9 o9 k9 =>
      have c3 : (v3.setCell ⟨X1, 3, none⟩ (.slice A9 n9 c9)).cell? ⟨b, 3, none⟩ = some (.int .i64 ((0 : Nat) : Int)) := HS.out.flag
      match t9, HS, H7 with
      | [], HS, H7 =>
       obtain ⟨A8, L8, cap8, c8, d8⟩ := HS.out.empty
       have hlt : decide ((L8 : Int) < (L8 : Int)) = false := by simp
       go_wp2
       go_region
       obtain ⟨c00, f00, c01, f01, c02, f02, c03, f03⟩ := row4 HB0.out
       have hne1 : X0 ≠ X1 := zX
       have hne2 : X1 ≠ X0 := zX
       have hne3 : X0 ≠ b := zX
       have hne4 : b ≠ X0 := zX
       obtain ⟨cc0, ff0, cc1, ff1, cc2, ff2, cc3, ff3⟩ := row4 HB.out
       go_wp2
       refine bodyPost_ret (v := .tuple #[.agg (fRow sx (.slice none 0 0) (.slice A m c) (.slice A9 n9 c9)).toArray, .int .i64 0, .int .i64 0]) (by simp [results, Tryz.results14, go_sem, cc0, cc1, cc2, cc3, c00, c01, c02, c03]) rfl ?_
       refine setsEnd (S := [X0]) (w := (v3.setCell ⟨X1, 3, none⟩ (.slice A9 n9 c9))) ?_ ?_
       · exact zW
       ·
        intro W9 hk
        rw [← H7.out]
        exact fn_live HX.out HSX.out HN.out H39.out HP9.out HL9.out HB9.out H7.out HPS.out HLS.out HA.out HK.out hk HBS.out.1
      | t :: r, HS, H7 =>
       obtain ⟨g8, off8, L8, cap8, i8, c8, d8, hi8, hL8, -⟩ := HS.out.anyTwo
       have hlt : decide ((i8 : Int) < (L8 : Int)) = true := by simp; omega
       have hlt' : decide (i8 < L8) = true := by simp; omega
       have HF9 := Hd (fun w' (h : SA w' b n (.live (t :: r) o9 k9)) => qfail_any w' b n _ h 51 (by omega) (by omega))
       go_wp2
       go_region
       go_wp2_with fail
       refine (HF9.out _ (HS.out.drewN _)).mono ?_
       rintro e w7 ⟨rfl, hs, hk⟩
       have HB0 := Hd (block_keep HB0.out (((Keeps.refl _ _).drewN _).trans hk (fun _ h _ => h)) zY)
       have HK := Hd ((HK.out.drewN _).hi hk zY)
       have HS := Hd hs
       have hs : SA w7 b n (.dead 51 t.at_ o9) := hs
       have c3 : w7.cell? ⟨b, 3, none⟩ = some (.int .i64 ((51 : Nat) : Int)) := hs.flag
       have c4 := SA.deadAt hs
       obtain ⟨p9, hp9⟩ : ∃ x, x = t.at_ := ⟨_, rfl⟩
       rw [← hp9] at c4
       obtain ⟨z9, hz9⟩ : ∃ x : Nat, x = 51 := ⟨_, rfl⟩
       rw [← hz9] at c3
       have hz1 : ((z9 : Int) != 0) = true := by simp; omega
       have hz' : decide ((z9 : Int) = 0) = false := by simp; omega
       have HZ9 := Hd (And.intro hp9 hz9)
       clear hk hs c8 d8 hlt hlt' hp9 hz9
       obtain ⟨c00, f00, c01, f01, c02, f02, c03, f03⟩ := row4 HB0.out
       have hne1 : X0 ≠ X1 := zX
       have hne2 : X1 ≠ X0 := zX
       have hne3 : X0 ≠ b := zX
       have hne4 : b ≠ X0 := zX
       go_wp2
       go_region
       go_wp2
       refine bodyPost_ret (v := .tuple #[.agg #[.string ⟨#[]⟩, .slice none 0 0, .slice none 0 0, .slice none 0 0], .int .i64 (p9 : Int), .int .i64 (z9 : Int)]) (by simp [results, Tryz.results14, go_sem, c00, c01, c02, c03]) rfl ?_
       refine setsEnd (S := [X0]) (w := w7) ?_ ?_
       · exact zW
       ·
        intro W9 hk
        rw [← H7.out, HZ9.out.1, HZ9.out.2]
        exact ⟨_, rfl, HK.out.hi hk zY, rfl⟩
 ·
  have hn9 : PP.2.sees [123] = false := by simpa using hbr
  rw [hn9] at HI
  have hbrace : brace n PP.2 = PP.2.fail n 51 := by unfold brace; rw [if_neg hbr]
  have HF9 := Hd (fun w' (h : SA w' b n PP.2) => qfail_any w' b n PP.2 h 51 (by omega) (by omega))
  have HBR := Hd hbrace
  have HROOT := Hd (show (∃ r, brace n PP.2 = .live r 1 0 ∧ r.length ≤ ts.length) ∨ ∃ z p, brace n PP.2 = .dead z p 0 from .inr (by
   rw [hbrace]
   rcases HROOT0.out with ⟨r, h, _⟩ | ⟨z, p, h⟩
   · rw [h]; exact ⟨_, _, rfl⟩
   · rw [h]; exact ⟨_, _, rfl⟩))
  clear hbr hn9 hbrace
  go_wp2_with fail
  refine (cK (HI.out _ HS.out) HK HB HB0 HS) fun v5 HK HB HB0 HS hk => ?_
  have HPS := zP HPS hk
  clear hk
  go_wp2_with fail
  refine (HF9.out _ HS.out).mono ?_
  rintro e v6 ⟨rfl, hs, hk⟩
  have HK := zH HK hk
  have HB := zB HB hk
  have HB0 := zB HB0 hk
  have HPS := zP HPS hk
  have HS := Hd (show SA v6 b n (brace n PP.2) from by rw [HBR.out]; exact hs)
  clear hs hk
  have HBASE := Hd (show X1 < v6.heap.size from block_lt HB.out)
  obtain ⟨base, hbase⟩ : ∃ x, x = v6.heap.size := ⟨_, rfl⟩
  have HVB := Hd (show ∀ ps, PP.1 = some ps → ∀ g, ((.slice none 0 0) : Value).ownBlock = some g → g < base from fun ps h g hg => by
   obtain ⟨_, cur, hc⟩ := rowOf (HPS.out ps h) hg
   rw [hbase]; exact block_lt hc)
  have HBS := Hd (show X1 < base ∧ base ≤ v6.heap.size from ⟨by rw [hbase]; exact HBASE.out, by omega⟩)
  clear hbase
  go_wp2_with fail
  go_loopw [10] (fun _ wr => ∃ (σ : St) (A : Option Addr) (m c : Nat) (ll : List Vr), SA wr b n σ ∧ Keeps [] w wr ∧ wr.heap[X0]? = some (.cells #[.string ⟨#[]⟩, .slice none 0 0, .slice none 0 0, .slice none 0 0] 26 (0, 0)) ∧ wr.heap[X1]? = some (.cells (fRow sx (.slice none 0 0) (.slice A m c) (.slice none 0 0)).toArray 26 (0, 0)) ∧ wr.ownsRow base 123 2 (.slice A m c) ll.length (varCells ll) ∧ (∀ ps, PP.1 = some ps → wr.ownsRow (X1 + 1) 123 2 ((.slice none 0 0)) ps.length (varCells ps)) ∧ base ≤ wr.heap.size ∧ ((∃ g r, σ = .live r 1 0 ∧ r.length + 1 ≤ g ∧ ll.length + r.length ≤ 5000 ∧ r.length ≤ ts.length ∧ LL = σ.lift n kI (vlocals g ll)) ∨ (∃ z p o, σ = .dead z p o ∧ o ≤ 1000 ∧ LL = (none, σ)))) (fun _ wr => qrank wr b)
  case atStart => exact ⟨_, none, 0, 0, [], HS.out, HK.out, HB0.out, HB.out, World.ownsRow_nil _ _ _ _, HPS.out, HBS.out.2, loop2_start HL9.out HROOT.out HFL.out HTS.out⟩
  case round =>
   obtain ⟨σ, A, m, c, ll, hs, hk, hb0, hb1, hown, hps, hbz, hc⟩ := hrel
   have HI1 := Hd (fun w' (h : SA w' b n σ) => qis_any w' b n σ h [118, 97, 114])
   have HI2 := Hd (fun w' (h : SA w' b n σ) => qis_any w' b n σ h [112, 116, 114])
   have HS := Hd hs
   have HK := Hd hk
   have HB0 := Hd hb0
   have HB := Hd hb1
   have HLS := Hd hown
   have HPS := Hd hps
   have HBZ := Hd hbz
   have HC := Hd hc
   have HS0 := Hd hs
   clear hs hk hb0 hb1 hown hps hbz hc
   cases hv : σ.sees [118, 97, 114] with
   | true =>
    have hp : σ.sees [112, 116, 114] = false := by
     rcases HC.out with ⟨g, r, rfl, _⟩ | ⟨z, p, o, rfl, _⟩
     · exact sees_other (show Px.sees r [118, 97, 114] = true from hv) (by decide)
     · cases hv
    rw [hv] at HI1
    rw [hp] at HI2
    obtain ⟨g, r, hσ, hg, hll, hrl, hLL⟩ : ∃ g r, σ = .live r 1 0 ∧ r.length + 1 ≤ g ∧ ll.length + r.length ≤ 5000 ∧ r.length ≤ ts.length ∧ LL = σ.lift n kI (vlocals g ll) := by
     rcases HC.out with h | ⟨z, p, o, rfl, _⟩
     · exact h
     · cases hv
    subst hσ
    have hsee : Px.sees r [118, 97, 114] = true ∨ Px.sees r [112, 116, 114] = true := .inl hv
    have hq : Px.sees r [112, 116, 114] = false := hp
    match g, hg with
    | g + 1, hg =>
    have hst := locals_step (n := n) (g := g) (o := 1) (k := 0) (l := ll) hsee
    rw [hq] at hst
    have HST := Hd hst
    have HLLE := Hd hLL
    have hrr : ∃ t r2, r = t :: r2 := by
     rcases hsee with h | h
     · obtain ⟨t, r2, h, _⟩ := sees_cons (by simp) h; exact ⟨t, r2, h⟩
     · obtain ⟨t, r2, h, _⟩ := sees_cons (by simp) h; exact ⟨t, r2, h⟩
    obtain ⟨t, r2, rfl⟩ := hrr
    simp only [List.tail_cons] at HST
    have hm9 : m = ll.length := by obtain ⟨_, _, h⟩ := row_slice HLS.out; injection h
    subst hm9
    have HM := Hd (fun w' (h : SA w' b n (.live r2 1 0)) (ho : w'.ownsRow base 123 2 (.slice A ll.length c) ll.length (varCells ll)) (hb : base ≤ w'.heap.size) => qmore_any w' b n _ h ll _ base ho ⟨by have := HX.out; have := HBS.out; omega, hb⟩ (by omega) false 20 (by omega))
    have HWW := Hd (fun w' (h : SA w' b n (dcl n 20 ll.length (.live r2 1 0))) => qwant_any w' b n _ h [59])
    clear hv hp hLL hsee hq hst HC
    go_wp2_with fail
    refine (cK (HI1.out _ HS.out) HK HB HB0 HS) fun v1 HK HB HB0 HS hk => ?_
    have HLS := zO HLS hk
    have HPS := zP HPS hk
    have HBZ := zZ HBZ hk
    clear hk
    go_wp2_with fail
    refine (cK (HI2.out _ HS.out) HK HB HB0 HS) fun v2 HK HB HB0 HS hk => ?_
    have HLS := zO HLS hk
    have HPS := zP HPS hk
    have HBZ := zZ HBZ hk
    clear hk
    obtain ⟨g2, off2, L2, cap2, i2, d0, d1, hi2, hL2, q0, q1, q2, qf, hq⟩ := HS.out.prev
    have HS := Hd hq
    have hk : Keeps [b] v2 (v2.setCell ⟨b, 1, none⟩ (.int .i64 ((i2 : Int) + 1))) := (Keeps.refl [b] _).set1 _ _
    have HK := zH HK hk
    have HB := zB HB hk
    have HB0 := zB HB0 hk
    have HLS := zO HLS hk
    have HPS := zP HPS hk
    have HBZ := Hd (show base ≤ (v2.setCell ⟨b, 1, none⟩ (.int .i64 ((i2 : Int) + 1))).heap.size by have := HBZ.out; have := hk.size; omega)
    clear hk hq q0 q1 q2 d0
    obtain ⟨cc2, ff2⟩ := rowi HB.out 2
    have hbx : b ≠ X1 := zX
    have hxb : X1 ≠ b := zX
    go_wp2_with fail
    refine (HM.out _ HS.out HLS.out HBZ.out).mono ?_
    rintro e v3 ⟨v', rfl, ⟨A2, m2, c2, rfl⟩, hk, hs, ll2, hown, hlen, hnew⟩
    have hin : ∀ y ∈ (b :: (Value.slice A ll.length c).ownBlock.toList), y = b ∨ base ≤ y := fun y hy => by
     rcases List.mem_cons.1 hy with h | h
     · exact .inl h
     · exact .inr (rowOf HLS.out (by simpa using h)).1
    have HB := zj HB hk
    have HB0 := zj HB0 hk
    have HPS := Hd (fun ps h => owned_keep (HPS.out ps h) hk (fun g hg hm => by have := hin _ hm; have := (rowOf (HPS.out ps h) hg).1; have := HVB.out ps h g hg; have := HX.out; omega))
    have HK := zk HK hk
    have HBZ := zZ HBZ hk
    have HS := Hd hs
    have HLS := Hd hown
    have HNEW := Hd hnew
    have HLEN := Hd hlen
    have hm9 : m2 = ll2.length := by obtain ⟨_, _, h⟩ := row_slice hown; injection h
    subst hm9
    clear hk hs hown hnew hlen hin d1 qf cc2 ff2
    obtain ⟨cc2, ff2⟩ := rowi HB.out 2
    have hk : Keeps [X1] v3 (v3.setCell ⟨X1, 2, none⟩ (.slice A2 ll2.length c2)) := (Keeps.refl [X1] _).set1 _ _
    have HB := Hd (show (v3.setCell ⟨X1, 2, none⟩ (.slice A2 ll2.length c2)).heap[X1]? = some (.cells (fRow sx (.slice none 0 0) (.slice A2 ll2.length c2) (.slice none 0 0)).toArray 26 (0, 0)) from row_set HB.out 2 _)
    have HB0 := zB HB0 hk
    have HK := zH HK hk
    have HS := zI HS hk
    have HLS := zO HLS hk
    have HPS := zP HPS hk
    clear hk
    have HBZ := Hd (show base ≤ (v3.setCell ⟨X1, 2, none⟩ (.slice A2 ll2.length c2)).heap.size by have := HBZ.out; first | omega | (simp; omega))
    go_wp2_with fail
    refine (HWW.out _ HS.out).mono ?_
    rintro e v4 ⟨rfl, hs, hk⟩
    have HK := zH HK hk
    have HB := zB HB hk
    have HB0 := zB HB0 hk
    have HLS := zO HLS hk
    have HPS := zP HPS hk
    have HBZ := zZ HBZ hk
    have HS := Hd hs
    clear hs hk cc2 ff2
    go_wp2
    go_roundw
    ·
     refine ⟨_, A2, _, c2, ll2, HS.out, HK.out, HB0.out, HB.out, HLS.out, HPS.out, HBZ.out, ?_⟩
     rcases HST.out with ⟨r3, q1, q2, q3, q4, q5⟩ | ⟨z, p, q4, q5⟩
     ·
      have hl2 := HNEW.out r2 1 0 rfl q2 q3
      subst hl2
      exact .inl ⟨g, r3, q4, by simp at q1 hg; omega, by simp at q1 hll ⊢; omega, by simp at q1 hrl; omega, by rw [q4]; exact HLLE.out.trans q5⟩
     · exact .inr ⟨z, p, 1, q4, by omega, by rw [q4]; exact HLLE.out.trans q5⟩
    ·
     rw [HS.out.rank, HS0.out.rank]
     rcases HST.out with ⟨r3, q1, q2, q3, q4, q5⟩ | ⟨z, p, q4, q5⟩
     · rw [q4]; simp only [St.rank]; omega
     · rw [q4]; show 0 < 1 + _; omega
   | false =>
    cases hp : σ.sees [112, 116, 114] with
    | true =>
     rw [hv] at HI1
     rw [hp] at HI2
     obtain ⟨g, r, hσ, hg, hll, hrl, hLL⟩ : ∃ g r, σ = .live r 1 0 ∧ r.length + 1 ≤ g ∧ ll.length + r.length ≤ 5000 ∧ r.length ≤ ts.length ∧ LL = σ.lift n kI (vlocals g ll) := by
      rcases HC.out with h | ⟨z, p, o, rfl, _⟩
      · exact h
      · cases hp
     subst hσ
     have hsee : Px.sees r [118, 97, 114] = true ∨ Px.sees r [112, 116, 114] = true := .inr hp
     have hq : Px.sees r [112, 116, 114] = true := hp
     match g, hg with
     | g + 1, hg =>
     have hst := locals_step (n := n) (g := g) (o := 1) (k := 0) (l := ll) hsee
     rw [hq] at hst
     have HST := Hd hst
     have HLLE := Hd hLL
     have hrr : ∃ t r2, r = t :: r2 := by
      rcases hsee with h | h
      · obtain ⟨t, r2, h, _⟩ := sees_cons (by simp) h; exact ⟨t, r2, h⟩
      · obtain ⟨t, r2, h, _⟩ := sees_cons (by simp) h; exact ⟨t, r2, h⟩
     obtain ⟨t, r2, rfl⟩ := hrr
     simp only [List.tail_cons] at HST
     have hm9 : m = ll.length := by obtain ⟨_, _, h⟩ := row_slice HLS.out; injection h
     subst hm9
     have HM := Hd (fun w' (h : SA w' b n (.live r2 1 0)) (ho : w'.ownsRow base 123 2 (.slice A ll.length c) ll.length (varCells ll)) (hb : base ≤ w'.heap.size) => qmore_any w' b n _ h ll _ base ho ⟨by have := HX.out; have := HBS.out; omega, hb⟩ (by omega) true 20 (by omega))
     have HWW := Hd (fun w' (h : SA w' b n (dcl n 20 ll.length (.live r2 1 0))) => qwant_any w' b n _ h [59])
     clear hv hp hLL hsee hq hst HC
     go_wp2_with fail
     refine (cK (HI1.out _ HS.out) HK HB HB0 HS) fun v1 HK HB HB0 HS hk => ?_
     have HLS := zO HLS hk
     have HPS := zP HPS hk
     have HBZ := zZ HBZ hk
     clear hk
     go_wp2_with fail
     refine (cK (HI2.out _ HS.out) HK HB HB0 HS) fun v2 HK HB HB0 HS hk => ?_
     have HLS := zO HLS hk
     have HPS := zP HPS hk
     have HBZ := zZ HBZ hk
     clear hk
     go_wp2_with fail
     refine (cK (HI2.out _ HS.out) HK HB HB0 HS) fun v3 HK HB HB0 HS hk => ?_
     have HLS := zO HLS hk
     have HPS := zP HPS hk
     have HBZ := zZ HBZ hk
     clear hk
     obtain ⟨g2, off2, L2, cap2, i2, d0, d1, hi2, hL2, q0, q1, q2, qf, hq⟩ := HS.out.prev
     have HS := Hd hq
     have hk : Keeps [b] v3 (v3.setCell ⟨b, 1, none⟩ (.int .i64 ((i2 : Int) + 1))) := (Keeps.refl [b] _).set1 _ _
     have HK := zH HK hk
     have HB := zB HB hk
     have HB0 := zB HB0 hk
     have HLS := zO HLS hk
     have HPS := zP HPS hk
     have HBZ := Hd (show base ≤ (v3.setCell ⟨b, 1, none⟩ (.int .i64 ((i2 : Int) + 1))).heap.size by have := HBZ.out; have := hk.size; omega)
     clear hk hq q0 q1 q2 d0
     obtain ⟨cc2, ff2⟩ := rowi HB.out 2
     have hbx : b ≠ X1 := zX
     have hxb : X1 ≠ b := zX
     go_wp2_with fail
     refine (HM.out _ HS.out HLS.out HBZ.out).mono ?_
     rintro e v4 ⟨v', rfl, ⟨A2, m2, c2, rfl⟩, hk, hs, ll2, hown, hlen, hnew⟩
     have hin : ∀ y ∈ (b :: (Value.slice A ll.length c).ownBlock.toList), y = b ∨ base ≤ y := fun y hy => by
      rcases List.mem_cons.1 hy with h | h
      · exact .inl h
      · exact .inr (rowOf HLS.out (by simpa using h)).1
     have HB := zj HB hk
     have HB0 := zj HB0 hk
     have HPS := Hd (fun ps h => owned_keep (HPS.out ps h) hk (fun g hg hm => by have := hin _ hm; have := (rowOf (HPS.out ps h) hg).1; have := HVB.out ps h g hg; have := HX.out; omega))
     have HK := zk HK hk
     have HBZ := zZ HBZ hk
     have HS := Hd hs
     have HLS := Hd hown
     have HNEW := Hd hnew
     have HLEN := Hd hlen
     have hm9 : m2 = ll2.length := by obtain ⟨_, _, h⟩ := row_slice hown; injection h
     subst hm9
     clear hk hs hown hnew hlen hin d1 qf cc2 ff2
     obtain ⟨cc2, ff2⟩ := rowi HB.out 2
     have hk : Keeps [X1] v4 (v4.setCell ⟨X1, 2, none⟩ (.slice A2 ll2.length c2)) := (Keeps.refl [X1] _).set1 _ _
     have HB := Hd (show (v4.setCell ⟨X1, 2, none⟩ (.slice A2 ll2.length c2)).heap[X1]? = some (.cells (fRow sx (.slice none 0 0) (.slice A2 ll2.length c2) (.slice none 0 0)).toArray 26 (0, 0)) from row_set HB.out 2 _)
     have HB0 := zB HB0 hk
     have HK := zH HK hk
     have HS := zI HS hk
     have HLS := zO HLS hk
     have HPS := zP HPS hk
     clear hk
     have HBZ := Hd (show base ≤ (v4.setCell ⟨X1, 2, none⟩ (.slice A2 ll2.length c2)).heap.size by have := HBZ.out; first | omega | (simp; omega))
     go_wp2_with fail
     refine (HWW.out _ HS.out).mono ?_
     rintro e v5 ⟨rfl, hs, hk⟩
     have HK := zH HK hk
     have HB := zB HB hk
     have HB0 := zB HB0 hk
     have HLS := zO HLS hk
     have HPS := zP HPS hk
     have HBZ := zZ HBZ hk
     have HS := Hd hs
     clear hs hk cc2 ff2
     go_wp2
     go_roundw
     ·
      refine ⟨_, A2, _, c2, ll2, HS.out, HK.out, HB0.out, HB.out, HLS.out, HPS.out, HBZ.out, ?_⟩
      rcases HST.out with ⟨r3, q1, q2, q3, q4, q5⟩ | ⟨z, p, q4, q5⟩
      ·
       have hl2 := HNEW.out r2 1 0 rfl q2 q3
       subst hl2
       exact .inl ⟨g, r3, q4, by simp at q1 hg; omega, by simp at q1 hll ⊢; omega, by simp at q1 hrl; omega, by rw [q4]; exact HLLE.out.trans q5⟩
      · exact .inr ⟨z, p, 1, q4, by omega, by rw [q4]; exact HLLE.out.trans q5⟩
     ·
      rw [HS.out.rank, HS0.out.rank]
      rcases HST.out with ⟨r3, q1, q2, q3, q4, q5⟩ | ⟨z, p, q4, q5⟩
      · rw [q4]; simp only [St.rank]; omega
      · rw [q4]; show 0 < 1 + _; omega
    | false =>
     rw [hv] at HI1
     rw [hp] at HI2
     have hLL : LL.2 = σ ∧ (∀ q, LL.1 = some q → q = ll) ∧ LL.2.fits f 9 ∧ LL.2.few := by
      rcases HC.out with ⟨g, r, rfl, hg, hll, hrl, hLL⟩ | ⟨z, p, o, rfl, ho, hLL⟩
      ·
       match g, hg with
       | g + 1, _ =>
       rw [hLL, locals_done hv hp]
       exact ⟨rfl, fun q h => (Option.some.inj h).symm, ⟨by omega, by have := HFL.out; omega⟩, Nat.zero_le _⟩
      · rw [hLL]; exact ⟨rfl, (fun q h => by cases h), ho, trivial⟩
     have HFIT := Hd hLL.2.2.1
     have HFEW := Hd hLL.2.2.2
     have HS := Hd (show SA wr b n LL.2 from by rw [hLL.1]; exact HS.out)
     have HLS := Hd (show ∀ q, LL.1 = some q → wr.ownsRow base 123 2 (.slice A m c) q.length (varCells q) from fun q h => by rw [hLL.2.1 q h]; exact HLS.out)
     have HI1 := Hd (fun w' (h : SA w' b n LL.2) => HI1.out w' (by rw [← hLL.1]; exact h))
     have HI2 := Hd (fun w' (h : SA w' b n LL.2) => HI2.out w' (by rw [← hLL.1]; exact h))
     clear hv hp hLL HC HS0
     go_wp2_with fail
     refine (cK (HI1.out _ HS.out) HK HB HB0 HS) fun v1 HK HB HB0 HS hk => ?_
     have HLS := zQ HLS hk
     have HPS := zP HPS hk
     clear hk
     go_wp2_with fail
     refine (cK (HI2.out _ HS.out) HK HB HB0 HS) fun v2 HK HB HB0 HS hk => ?_
     have HLS := zQ HLS hk
     have HPS := zP HPS hk
     clear hk
     have hq9 := (qsc f).stmts v2 b n LL.2 X1 HS.out HFIT.out HFEW.out zX (block_lt HB.out)
     rw [← HB9.out] at hq9
     have HQ9 := Hd hq9
     clear hq9
     go_wp2_with fail
     refine (HQ9.out).mono ?_
     rintro e v3 ⟨v, rfl, ⟨A9, n9, c9, rfl⟩, hk, hs, ha⟩
     have HK := zH HK hk
     have HB := zB HB hk
     have HB0 := zB HB0 hk
     have HLS := zQ HLS hk
     have HPS := zP HPS hk
     have HA := Hd ha
     have HS := Hd hs
     clear hk hs ha
     obtain ⟨cc3, ff3⟩ := rowi HB.out 3
     have hk : Keeps [X1] v3 (v3.setCell ⟨X1, 3, none⟩ (.slice A9 n9 c9)) := (Keeps.refl [X1] _).set1 _ _
     have HB := Hd (show (v3.setCell ⟨X1, 3, none⟩ (.slice A9 n9 c9)).heap[X1]? = some (.cells (fRow sx (.slice none 0 0) (.slice A m c) (.slice A9 n9 c9)).toArray 26 (0, 0)) from row_set HB.out 3 _)
     have HB0 := zB HB0 hk
     have HK := zH HK hk
     have HS := zI HS hk
     have HLS := zQ HLS hk
     have HPS := zP HPS hk
     have HA := Hd (fun q h => SsAt.keepS2 (HA.out q h) hk zY)
     clear hk
     obtain ⟨σ7, h7⟩ : ∃ x, x = BB.2 := ⟨_, rfl⟩
     rw [← h7] at HS
     have H7 := Hd h7
     clear h7
     cases σ7 with
     | dead z9 p9 o9 =>
      have c3 : (v3.setCell ⟨X1, 3, none⟩ (.slice A9 n9 c9)).cell? ⟨b, 3, none⟩ = some (.int .i64 (z9 : Int)) := HS.out.flag
      have hz : ((z9 : Int) == 0) = false := by have := HS.out.1; simp; omega
      have hz1 : ((z9 : Int) != 0) = true := by have := HS.out.1; simp; omega
      have hz' : decide ((z9 : Int) = 0) = false := by have := HS.out.1; simp; omega
      have c4 := SA.deadAt HS.out
      go_wp2
      go_region
      obtain ⟨c00, f00, c01, f01, c02, f02, c03, f03⟩ := row4 HB0.out
      have hne1 : X0 ≠ X1 := zX
      have hne2 : X1 ≠ X0 := zX
      have hne3 : X0 ≠ b := zX
      have hne4 : b ≠ X0 := zX
      go_wp2
      go_region
      go_wp2
      refine bodyPost_ret (v := .tuple #[.agg #[.string ⟨#[]⟩, .slice none 0 0, .slice none 0 0, .slice none 0 0], .int .i64 (p9 : Int), .int .i64 (z9 : Int)]) (by simp [results, Tryz.results14, go_sem, c00, c01, c02, c03]) rfl ?_
      refine setsEnd (S := [X0]) (w := (v3.setCell ⟨X1, 3, none⟩ (.slice A9 n9 c9))) ?_ ?_
      · exact zW
      ·
       intro W9 hk
       rw [← H7.out]
       exact ⟨_, rfl, HK.out.hi hk zY, rfl⟩
     | live t9 o9 k9 =>
      have c3 : (v3.setCell ⟨X1, 3, none⟩ (.slice A9 n9 c9)).cell? ⟨b, 3, none⟩ = some (.int .i64 ((0 : Nat) : Int)) := HS.out.flag
      match t9, HS, H7 with
      | [], HS, H7 =>
       obtain ⟨A8, L8, cap8, c8, d8⟩ := HS.out.empty
       have hlt : decide ((L8 : Int) < (L8 : Int)) = false := by simp
       go_wp2
       go_region
       obtain ⟨c00, f00, c01, f01, c02, f02, c03, f03⟩ := row4 HB0.out
       have hne1 : X0 ≠ X1 := zX
       have hne2 : X1 ≠ X0 := zX
       have hne3 : X0 ≠ b := zX
       have hne4 : b ≠ X0 := zX
       obtain ⟨cc0, ff0, cc1, ff1, cc2, ff2, cc3, ff3⟩ := row4 HB.out
       go_wp2
       refine bodyPost_ret (v := .tuple #[.agg (fRow sx (.slice none 0 0) (.slice A m c) (.slice A9 n9 c9)).toArray, .int .i64 0, .int .i64 0]) (by simp [results, Tryz.results14, go_sem, cc0, cc1, cc2, cc3, c00, c01, c02, c03]) rfl ?_
       refine setsEnd (S := [X0]) (w := (v3.setCell ⟨X1, 3, none⟩ (.slice A9 n9 c9))) ?_ ?_
       · exact zW
       ·
        intro W9 hk
        rw [← H7.out]
        exact fn_live HX.out HSX.out HN.out H39.out HP9.out HL9.out HB9.out H7.out HPS.out HLS.out HA.out HK.out hk HBS.out.1
      | t :: r, HS, H7 =>
       obtain ⟨g8, off8, L8, cap8, i8, c8, d8, hi8, hL8, -⟩ := HS.out.anyTwo
       have hlt : decide ((i8 : Int) < (L8 : Int)) = true := by simp; omega
       have hlt' : decide (i8 < L8) = true := by simp; omega
       have HF9 := Hd (fun w' (h : SA w' b n (.live (t :: r) o9 k9)) => qfail_any w' b n _ h 51 (by omega) (by omega))
       go_wp2
       go_region
       go_wp2_with fail
       refine (HF9.out _ (HS.out.drewN _)).mono ?_
       rintro e w7 ⟨rfl, hs, hk⟩
       have HB0 := Hd (block_keep HB0.out (((Keeps.refl _ _).drewN _).trans hk (fun _ h _ => h)) zY)
       have HK := Hd ((HK.out.drewN _).hi hk zY)
       have HS := Hd hs
       have hs : SA w7 b n (.dead 51 t.at_ o9) := hs
       have c3 : w7.cell? ⟨b, 3, none⟩ = some (.int .i64 ((51 : Nat) : Int)) := hs.flag
       have c4 := SA.deadAt hs
       obtain ⟨p9, hp9⟩ : ∃ x, x = t.at_ := ⟨_, rfl⟩
       rw [← hp9] at c4
       obtain ⟨z9, hz9⟩ : ∃ x : Nat, x = 51 := ⟨_, rfl⟩
       rw [← hz9] at c3
       have hz1 : ((z9 : Int) != 0) = true := by simp; omega
       have hz' : decide ((z9 : Int) = 0) = false := by simp; omega
       have HZ9 := Hd (And.intro hp9 hz9)
       clear hk hs c8 d8 hlt hlt' hp9 hz9
       obtain ⟨c00, f00, c01, f01, c02, f02, c03, f03⟩ := row4 HB0.out
       have hne1 : X0 ≠ X1 := zX
       have hne2 : X1 ≠ X0 := zX
       have hne3 : X0 ≠ b := zX
       have hne4 : b ≠ X0 := zX
       go_wp2
       go_region
       go_wp2
       refine bodyPost_ret (v := .tuple #[.agg #[.string ⟨#[]⟩, .slice none 0 0, .slice none 0 0, .slice none 0 0], .int .i64 (p9 : Int), .int .i64 (z9 : Int)]) (by simp [results, Tryz.results14, go_sem, c00, c01, c02, c03]) rfl ?_
       refine setsEnd (S := [X0]) (w := w7) ?_ ?_
       · exact zW
       ·
        intro W9 hk
        rw [← H7.out, HZ9.out.1, HZ9.out.2]
        exact ⟨_, rfl, HK.out.hi hk zY, rfl⟩
end Go.Proofs.YtbikifibfaaggaaGreatDoor
