import Derived.Test.YtbikifibfaaggaaGreatDoorVMK
import Derived.Test.YtbikifibfaaggaaGreatDoorVML
namespace Go.Proofs.YtbikifibfaaggaaGreatDoor
section
set_option maxHeartbeats 2000000
set_option maxRecDepth 100000
open Go.RowKit Go.Shelf
open Lx (Tok Tx)
open Px (Ex Cn Sm Vr)
def IP (F : Nat) (nm vp : Value) (w : World) (b n o : Nat) (r : Px.R ((List Vr × List Sm) × Nat)) (e : Ending) (w' : World) : Prop :=
 match r with
 | .ok a ts => ∃ v vl, e = .returned v ∧ SsAt 0 w' b (a.1.2, a.2) v ∧ VarsAt w' b a.1.1 vl ∧ w'.heap[F]? = some (.cells #[nm, vp, vl, .slice none 0 0] 26 (0, 0)) ∧ PAt w' b n ts o a.2 ∧ Keeps [b, F] w w'
 | .err z ts => e = .panicked (died (z : Int)) ∧ (∃ o' k', PAt w' b n ts o' k') ∧ Keeps [b, F] w w'
theorem VarsAt.keep {w w' : World} {b : Nat} {l : List Vr} {v : Value} {S : List Nat} (h : VarsAt w b l v) (hk : Keeps S w w') (hS : ∀ y ∈ S, y ≤ b ∨ NotT w y 123) : VarsAt w' b l v := row_keepT h (by omega) hk hS
theorem VarsAt.form {w : World} {b : Nat} {l : List Vr} {v : Value} (h : VarsAt w b l v) : ∃ A c, v = .slice A l.length c := row_slice h
theorem SsAt.zero {lo : Nat} {w : World} {b : Nat} {p : List Sm × Nat} {v : Value} (h : SsAt lo w b p v) : SsAt 0 w b p v := by
 obtain ⟨B, h1, h2⟩ := h
 exact ⟨B, h1, fun g hg => ⟨by omega, (h2 g hg).2⟩⟩
theorem inner_any (w : World) (b n o : Nat) (ts : List Tok) (f F q1 : Nat) (nm vp : Value) (h : PAt w b n ts o 0) (ho2 : o ≤ 1000) (hf : 4 * ts.length + 8 ≤ f) (hq : w.cell? ⟨q1, 0, none⟩ = some (pp b)) (hq1 : b < q1) (hF : w.heap[F]? = some (.cells #[nm, vp, .slice none 0 0, .slice none 0 0] 26 (0, 0))) (hFb : b < F) (hqF : q1 ≠ F) :
 Calls Tryz.prog 81 #[.pointer (some ⟨q1, 0, none⟩), .pointer (some ⟨F, 0, none⟩)] w (IP F nm vp w b n o (Px.inner f o ts)) := by
 have HL := Hd (locals_any w b n o 0 ts f h ho2 (by omega))
 have hlen := fun aa qq (h : Px.localsL f [] ts = .ok aa qq) => Px.localsL_len f h
 obtain ⟨R, hR⟩ : ∃ R, R = Px.inner f o ts := ⟨_, rfl⟩
 rw [← hR]
 unfold Px.inner at hR
 obtain ⟨rr, hrr⟩ : ∃ x, x = Px.localsL f [] ts := ⟨_, rfl⟩
 rw [← hrr] at HL hlen hR
 have HR := Hd hR
 have HLEN := Hd hlen
 have HF := Hd hF
 have HQ := Hd hq
 have HU := Hd (fun w' r (h' : PAt w' b n r o 0) (hl : r.length ≤ ts.length) => stmts_any w' b n o 0 r f h' ho2 (by omega))
 have HFB := Hd hFb
 have HQB := Hd hq1
 clear h hrr hR hlen hF hf hFb hq1
 cases rr with
 | err z r =>
  go_enter Tryz.func81, Tryz.ntmps81
  go_wp2_with fail
  refine (HL.out).mono ?_
  rintro e w1 ⟨rfl, h4, h5⟩
  have H4 := Hd h4
  have H5 := Hd h5
  clear h4 h5
  go_wp2
  rw [HR.out]
  exact ⟨rfl, rfl, H4.out, H5.out.mono (by simp)⟩
 | ok ls r =>
  have hR := HR.out
  simp only [Px.bind_ok] at hR
  obtain ⟨rq, hrq⟩ : ∃ x, x = Px.stmts f o 0 [] r := ⟨_, rfl⟩
  have HU2 := Hd (fun w' h' => HU.out w' r h' (HLEN.out ls r rfl))
  rw [← hrq] at hR HU2
  have HR := Hd hR
  clear hR hrq HU
  go_enter Tryz.func81, Tryz.ntmps81
  go_wp2_with fail
  refine (HL.out).mono ?_
  rintro e w1 ⟨vl, rfl, h3, h4, h5⟩
  have H3 := Hd h3
  have H4 := Hd h4
  have H5 := Hd h5
  obtain ⟨Al, cl, rfl⟩ := h3.form
  have hF1 := block_keep HF.out h5 (by have := HFB.out; simp; omega)
  have HF1 := Hd hF1
  have cc2 := row_cell hF1 2
  have ff2 := row_free hF1 2
  have hq1 := h5.cell_some HQ.out (by have := HQB.out; simp; omega)
  simp only [List.getElem?_toArray, List.getElem?_cons_zero, List.getElem?_cons_succ] at cc2
  clear h3 h4 h5 hF1 hq
  go_wp2_with fail
  have hbk := H4.out.keepHi ((Keeps.refl [F] w1).setCell (p := ⟨F, 2, none⟩) (by simp) (.slice Al ls.length cl)) (by have := HFB.out; simpa using this)
  have HP2 := Hd hbk
  have HRF := Hd (show (w1.setCell ⟨F, 2, none⟩ (.slice Al ls.length cl)).heap[F]? = some (.cells #[nm, vp, .slice Al ls.length cl, .slice none 0 0] 26 (0, 0)) by rw [row_set HF1.out]; rfl)
  have HV2 := Hd (H3.out.keep ((Keeps.refl [F] w1).setCell (p := ⟨F, 2, none⟩) (by simp) (.slice Al ls.length cl)) (fun y hy => .inr (by
   obtain rfl : y = F := by simpa using hy
   exact NotT.of HF1.out (by decide))))
  have HK2 := Hd (show Keeps [b, F] w (w1.setCell ⟨F, 2, none⟩ (.slice Al ls.length cl)) from (H5.out.mono (T := [b, F]) (fun i hi _ => by simp at hi ⊢; exact .inl hi)).setCell (fun _ => by simp) _)
  clear hbk cc2 ff2
  refine (HU2.out _ HP2.out).mono ?_
  intro e w3 hr
  cases rq with
  | err z r =>
   obtain ⟨rfl, h4, h5⟩ := hr
   have H6 := Hd h4
   have H7 := Hd (HK2.out.trans h5 (fun i hi _ => by simp at hi ⊢; exact .inl hi))
   clear h4 h5
   go_wp2
   rw [HR.out]
   exact ⟨rfl, rfl, H6.out, H7.out⟩
  | ok a r3 =>
   obtain ⟨v, rfl, h3, h4, h5⟩ := hr
   have H6 := Hd h4
   have H7 := Hd (HK2.out.trans h5 (fun i hi _ => by simp at hi ⊢; exact .inl hi))
   have H8 := Hd h3.zero
   have H9 := Hd (block_keep HRF.out h5 (by have := HFB.out; simp; omega))
   have H10 := Hd (HV2.out.keep h5 (by simp))
   obtain ⟨Ab, cb, rfl⟩ := h3.form
   clear h3 h4 h5
   go_wp2_with fail
   go_ret
   rw [HR.out]
   exact ⟨_, _, rfl, H8.out, H10.out, H9.out, H6.out, H7.out⟩
theorem within_fn (w : World) (b n o k : Nat) (t : Tok) (r : List Tok) (h : PAt w b n (t :: r) o k) (s : Tx) (hy : Px.sees (t :: r) s = true) (ho : o < 40) (q1 F : Nat) (nm vp : Value) (hFb : b < F) (rr : Px.R ((List Vr × List Sm) × Nat))
 (hF : ∀ w1, PAt w1 b n r (o + 1) k → Keeps [b] w w1 → Calls Tryz.prog 81 #[.pointer (some ⟨q1, 0, none⟩), .pointer (some ⟨F, 0, none⟩)] w1 (IP F nm vp w1 b n (o + 1) rr)) :
 Calls Tryz.prog 80 #[pp b, .string (strO s), .func (.func 81) #[] #[.pointer (some ⟨q1, 0, none⟩), .pointer (some ⟨F, 0, none⟩)]] w (IP F nm vp w b n o rr) := by
 have HS := Hd (sees_any w b n o k (t :: r) h s)
 rw [hy] at HS
 have HN := Hd (fun w' => pneed_yes w' 51)
 have HN2 := Hd (fun w' => pneed_yes w' 52)
 have HT := Hd (take_any w b n o k t r h)
 have HLT := Hd (show decide ((o : Int) < 40) = true by simp; omega)
 have c2 := h.open.1
 obtain ⟨y, hyy⟩ : ∃ y, y = strO s := ⟨_, rfl⟩
 obtain ⟨x, hx⟩ : ∃ x, x = strO t.text := ⟨_, rfl⟩
 rw [← hyy] at HS ⊢
 rw [← hx] at HT
 have HF := Hd hF
 have HFB := Hd hFb
 clear h hy hyy hx hF hFb
 go_enter Tryz.func80, Tryz.ntmps80
 go_wp2_with fail
 refine (same (HS.out)) ?_
 go_wp2_with fail
 refine (same (HN.out _)) ?_
 go_wp2_with fail
 try rw [HLT.out]
 refine (same (HN2.out _)) ?_
 go_wp2_with fail
 refine (HT.out).mono ?_
 rintro e w1 ⟨rfl, h1, h2⟩
 have H1 := Hd h1
 have H2 := Hd h2
 obtain ⟨d2, e2, _, _⟩ := h1.open
 clear h1 h2 c2
 go_wp2_with fail
 refine (HF.out _ (H1.out.setOpen (o + 1)) (H2.out.setCell (by simp) _)).mono ?_
 intro e w2 hr
 cases rr with
 | ok a ts =>
  obtain ⟨v, vl, rfl, h3, h3v, h3f, h4, h5⟩ := hr
  have H3 := Hd h3
  have H3V := Hd h3v
  have H3F := Hd h3f
  have H4 := Hd h4
  have H5 := Hd h5
  obtain ⟨d3, e3, _, _⟩ := h4.open
  obtain ⟨Ab, cb, rfl⟩ := h3.form
  clear h3 h3v h3f h4 h5 d2 e2
  go_wp2_with fail
  go_ret
  have hkb := (Keeps.refl [b] w2).setCell (p := ⟨b, 2, none⟩) (by simp) (.int .i64 (o : Int))
  exact ⟨_, vl, rfl, H3.out.keepb hkb, H3V.out.keep hkb (by simp), block_keep H3F.out hkb (by have := HFB.out; simp; omega), by simpa using H4.out.setOpen o, (((H2.out.setCell (by simp) _).mono (T := [b, F]) (fun i hi _ => by simp at hi ⊢; exact .inl hi)).trans H5.out (fun _ h _ => h)).setCell (fun _ => by simp) _⟩
 | err z ts =>
  obtain ⟨rfl, h4, h5⟩ := hr
  have H4 := Hd h4
  have H5 := Hd h5
  clear h4 h5 d2 e2
  go_wp2
  exact ⟨rfl, rfl, H4.out, ((H2.out.setCell (by simp) _).mono (T := [b, F]) (fun i hi _ => by simp at hi ⊢; exact .inl hi)).trans H5.out (fun _ h _ => h)⟩
def FnAt (w : World) (b : Nat) (p : Px.Fn × Nat) (v : Value) : Prop := ∃ vp vl vb, v = .agg #[.string (strO p.1.name), vp, vl, vb] ∧ VarsAt w b p.1.params vp ∧ VarsAt w b p.1.locals vl ∧ SsAt 0 w b (p.1.body, p.2) vb
def TyB (w : World) (B : Nat → Prop) (g : Nat) : Prop := B g ∧ ∃ cs, w.heap[g]? = some (.cells cs 60 (0, 0))
mutual
theorem SmAt.typed {w : World} {b : Nat} {B : Nat → Prop} : ∀ (s : Sm) (vs : List Value), SmAt w b B s vs → SmAt w b (TyB w B) s vs
 | .mk kd x y e f c args th el a, vs, h => by
  obtain ⟨ve, vf, vc, va, vt, vl, h1, h2, h3, h4, h5, ⟨c1, h6, h7, h8⟩, ⟨c2, h9, h10, h11⟩⟩ := h
  exact ⟨ve, vf, vc, va, vt, vl, h1, h2, h3, h4, h5, ⟨c1, h6, fun g hg => ⟨h7 g hg, (rowOf h6 hg).2⟩, SmC.typed th c1 h8⟩, ⟨c2, h9, fun g hg => ⟨h10 g hg, (rowOf h9 hg).2⟩, SmC.typed el c2 h11⟩⟩
theorem SmC.typed {w : World} {b : Nat} {B : Nat → Prop} : ∀ (l : List Sm) (cs : List Value), SmC w b B l cs → SmC w b (TyB w B) l cs
 | [], _, h => h
 | s :: l, _, ⟨vs, ds, h1, h2, h3⟩ => ⟨vs, ds, h1, SmAt.typed s vs h2, SmC.typed l ds h3⟩
end
theorem SsB.typed {w : World} {b : Nat} {B : Nat → Prop} {l : List Sm} {v : Value} (h : SsB w b B l v) : SsB w b (TyB w B) l v := by
 obtain ⟨cs, h1, h2, h3⟩ := h
 exact ⟨cs, h1, fun g hg => ⟨h2 g hg, (rowOf h1 hg).2⟩, SmC.typed l cs h3⟩
theorem SsAt.keepF {lo : Nat} {w w' : World} {b x : Nat} {p : List Sm × Nat} {v : Value} {cs : Array Value} (h : SsAt lo w b p v) (hk : Keeps [x] w w') (hx : w.heap[x]? = some (.cells cs 26 (0, 0))) : SsAt lo w' b p v := by
 obtain ⟨B, h1, h2⟩ := h
 refine ⟨TyB w B, h1.typed.keep hk (fun y hy => .inr ?_), fun g hg => ⟨(h2 g hg.1).1, by have := (h2 g hg.1).2; have := hk.size; omega⟩⟩
 obtain rfl : y = x := by simpa using hy
 refine ⟨fun ⟨_, ds, h3⟩ => ?_, NotT.of hx (by decide), NotT.of hx (by decide), NotT.of hx (by decide)⟩
 rw [hx] at h3
 injection h3 with h3
 injection h3 with _ h3
 exact absurd h3 (by decide)
theorem lay_ne {L : Nat → Bool} {i c : Nat} (h : i ≠ c) : Reg.lay L i c = L c := by simp [Reg.lay]; intro hc; omega
theorem lay_eq {L : Nat → Bool} {i : Nat} : Reg.lay L i i = true := by simp [Reg.lay]
theorem upd_ne {vs : Nat → Value} {i c : Nat} {v : Value} (h : i ≠ c) : Reg.upd vs i v c = vs c := by unfold Reg.upd; rw [if_neg (fun e => h e.symm)]
theorem upd_eq {vs : Nat → Value} {i : Nat} {v : Value} : Reg.upd vs i v i = v := by unfold Reg.upd; rw [if_pos rfl]
def AnyF : Reg.Fact := fun _ _ => True
structure RF (w1 : World) (b n : Nat) (r1 : List Tok) (rrN : Px.R Tx) (f : Nat) (L : Nat → Bool) (vs : Nat → Value) (w' : World) : Prop where
 keep : Keeps [b] w1 w'
 c1 : L 7 = true → L 3 = true
 c2 : L 10 = true → L 9 = true ∧ L 7 = true
 c4 : L 8 = true → L 7 = true
 s0 : L 3 = false → PAt w' b n r1 0 0
 s8 : L 8 = true → vs 8 = .agg #[vs 3, vs 7, .slice none 0 0, .slice none 0 0]
 s1 : L 3 = true → ∃ s r2, rrN = .ok s r2 ∧ vs 3 = .string (strO s) ∧ (L 7 = false → PAt w' b n r2 0 0) ∧ (L 7 = true → ∃ ps r3 A c, Px.params f r2 = .ok ps r3 ∧ vs 7 = .slice A ps.length c ∧ VarsAt w' b ps (vs 7) ∧ PAt w' b n r3 0 0)
 s9 : L 9 = true → ∃ X, vs 9 = .pointer (some ⟨X, 0, none⟩) ∧ w1.heap.size ≤ X ∧ (L 10 = false → w'.heap[X]? = some (.cells #[.string .empty, .slice none 0 0, .slice none 0 0, .slice none 0 0] 26 (0, 0))) ∧ (L 10 = true → w'.heap[X]? = some (.cells #[vs 3, vs 7, .slice none 0 0, .slice none 0 0] 26 (0, 0)))
theorem RF.lay {w1 : World} {b n : Nat} {r1 : List Tok} {rrN : Px.R Tx} {f : Nat} {L : Nat → Bool} {vs : Nat → Value} {w' : World} (h : RF w1 b n r1 rrN f L vs w') {i : Nat} {v : Value} (hi : i ≠ 3 ∧ i ≠ 7 ∧ i ≠ 8 ∧ i ≠ 9 ∧ i ≠ 10) : RF w1 b n r1 rrN f (Reg.lay L i) (Reg.upd vs i v) w' := by
 obtain ⟨h3, h7, h8, h9, h10⟩ := hi
 refine ⟨h.keep, ?_, ?_, ?_, ?_, ?_, ?_, ?_⟩
 · rw [lay_ne h7, lay_ne h3]; exact h.c1
 · rw [lay_ne h7, lay_ne h9, lay_ne h10]; exact h.c2
 · rw [lay_ne h8, lay_ne h7]; exact h.c4
 · rw [lay_ne h3]; exact h.s0
 · rw [lay_ne h8, upd_ne h8, upd_ne h3, upd_ne h7]; exact h.s8
 · rw [lay_ne h3, lay_ne h7, upd_ne h3, upd_ne h7]; exact h.s1
 · rw [lay_ne h9, lay_ne h10, upd_ne h9, upd_ne h3, upd_ne h7]; exact h.s9
theorem function_any (w : World) (b n : Nat) (ts : List Tok) (f : Nat) (h : PAt w b n ts 0 0) (hf : 4 * ts.length + 8 ≤ f) :
 Calls Tryz.prog 34 #[pp b] w (RP FnAt Prod.snd w b n 0 (Px.funcR f ts)) := by
 obtain ⟨R, hR⟩ : ∃ R, R = Px.funcR f ts := ⟨_, rfl⟩
 rw [← hR]
 unfold Px.funcR Px.want at hR
 have HR := Hd hR
 clear hR
 have HBL := Hd h.lt
 have HF := Hd hf
 have hmf := hmf0
 have H0 := Hd ((h.keep ((Keeps.refl [] _).alloc (.cells #[pp b] 129))).keep ((Keeps.refl [] _).alloc (.cells #[.string .empty, .slice none 0 0, .slice none 0 0, .slice none 0 0] 26)))
 have HK0 := Hd (((Keeps.refl [b] w).alloc (.cells #[pp b] 129)).alloc (.cells #[.string .empty, .slice none 0 0, .slice none 0 0, .slice none 0 0] 26))
 have HB0 := Hd (show ((w.alloc (.cells #[pp b] 129)).alloc (.cells #[.string .empty, .slice none 0 0, .slice none 0 0, .slice none 0 0] 26)).heap[w.heap.size]? = some (.cells #[pp b] 129 (0, 0)) from block_keep (heap_alloc_new _ _) ((Keeps.refl [] _).alloc _) (by simp))
 have HB1 := Hd (show ((w.alloc (.cells #[pp b] 129)).alloc (.cells #[.string .empty, .slice none 0 0, .slice none 0 0, .slice none 0 0] 26)).heap[w.heap.size + 1]? = some (.cells #[.string .empty, .slice none 0 0, .slice none 0 0, .slice none 0 0] 26 (0, 0)) by
  have := heap_alloc_new (w.alloc (.cells #[pp b] 129)) (.cells #[.string .empty, .slice none 0 0, .slice none 0 0, .slice none 0 0] 26)
  simpa using this)
 have HC1 := Hd (fun w' h' => pass_rp w' b n 0 0 ts h' [102, 110] (by simp))
 have hlen := fun aa qq (h : Px.passR [102, 110] ts = .ok aa qq) => Px.passR_len (by simp) h
 have hR := HR.out
 obtain ⟨rr, hrr⟩ : ∃ x, x = Px.passR [102, 110] ts := ⟨_, rfl⟩
 rw [← hrr] at HC1 hlen hR
 have HR := Hd hR
 have HLEN := Hd hlen
 clear hR hlen hrr h hf
 go_enter Tryz.func34, Tryz.ntmps34
 go_wp2_with fail
 refine (HC1.out _ H0.out).mono ?_
 intro e w1 hr
 cases rr with
 | err z r =>
  obtain ⟨rfl, H4, H5⟩ := zE hr HK0
  go_wp2
  rw [HR.out]
  exact ⟨rfl, rfl, H4.out, H5.out⟩
 | ok a1 r1 =>
  obtain ⟨v1, rfl, h3, h4, h5⟩ := hr
  have HL1 := Hd (HLEN.out a1 r1 rfl)
  have HR := zR1 HR
  obtain rfl : v1 = .tuple #[] := h3
  have HB0 := zL HB0 h5
  have HB1 := zL HB1 h5
  have hp1 := row_cell HB0.out 0
  simp only [List.getElem?_toArray, List.getElem?_cons_zero] at hp1
  have HW1 := Hd h4
  have HKW1 := zV HK0 h5
  clear h4 h5
  have HLR1 := Hd (show r1.length < ts.length from HL1.out)
  obtain ⟨rrN, hN⟩ : ∃ x, x = Px.nameR r1 := ⟨_, rfl⟩
  have hR := HR.out
  rw [← hN] at hR
  have HR := Hd hR
  have HNC := Hd (fun w' h' => name_rp w' b n 0 0 r1 h')
  have hlenN := fun aa qq (h : Px.nameR r1 = .ok aa qq) => Px.nameR_len h
  rw [← hN] at HNC hlenN
  have HLENN := Hd hlenN
  clear hR hN hlenN
  have hbl := HBL.out
  have hxb : b < w.heap.size + 1 := by omega
  go_wp2_with fail
  refine RegP.wp_region_free (fun c w' => ∃ z r, R = .err z r ∧ c = died (z : Int) ∧ (∃ o' k', PAt w' b n r o' k') ∧ Keeps [b] w w') (RF w1 b n r1 rrN f) (fun _ _ => True) (A := ?A)
   [Reg.Is (pp b), Reg.Is (pp b), Reg.Is (pp b), AnyF, Reg.Is (pp b), Reg.Is (pp b), Reg.Is (.func (.func 79) #[pp b] #[]), AnyF, AnyF, AnyF, AnyF]
   ?hQ (by kernel_rfl) (by kernel_rfl) (by kernel_rfl) ?hA ?hC ?ho ?hlast ?hend
  case hQ =>
   intro a c w' hb hq
   obtain ⟨z, r, q1, q2, q3, q4⟩ := hq
   exact ⟨hb, by rw [q1, q2]; exact ⟨rfl, q3, q4⟩⟩
  case hA => intro vs; simp only [Reg.fill, if_true, Nat.zero_add, Nat.reduceAdd, Act.put, List.setIfInBounds_toArray, List.set_cons_succ, List.set_cons_zero]; exact rfl
  case hC => exact fun vs => ⟨(Keeps.refl _ _).drew, fun hl => by simp at hl, fun hl => by simp at hl, fun hl => by simp at hl, fun _ => HW1.out.keep ((Keeps.refl [] _).drew), fun hl => by simp at hl, fun hl => by simp at hl, fun hl => by simp at hl⟩
  case hlast => repeat (first | exact trivial | refine ⟨fun _ _ _ h _ => h, ?_⟩)
  case ho =>
   repeat' apply And.intro
   all_goals
    first
     | exact trivial
     | (
      intro Ls vs w' hC hL hd ha K hK
      try simp only [Reg.Deps, Reg.at_, List.getD_cons_zero, List.getD_cons_succ, Region.binds, true_implies, Reg.Is, and_true, AnyF, true_and] at hd
      have hb0 := block_keep HB0.out hC.keep (by simp; omega)
      have hp0 := row_cell hb0 0
      simp only [List.getElem?_toArray, List.getElem?_cons_zero] at hp0
      try simp only [Reg.wantedV, if_true]
      try go_simp
      try simp only [RegP.gives_value, RegP.gives_skip, RegP.gives_enter]
      first
       | exact hK _ _ (hC.lay (by decide)) trivial rfl
       | exact hK _ _ (hC.lay (by decide)) trivial trivial
       | skip)
   ·
    have hL' : Ls 3 = false := hL
    have h7 : Ls 7 = false := by
     cases h : Ls 7 with
     | false => rfl
     | true => have := hC.c1 h; rw [hL'] at this; cases this
    refine (HNC.out _ (hC.s0 hL')).mono ?_
    intro e w'' hr
    cases rrN with
    | err z r =>
     obtain ⟨rfl, h4, h5⟩ := hr
     exact .inr ⟨_, rfl, z, r, by rw [HR.out]; rfl, rfl, h4, (HKW1.out.trans hC.keep (fun _ h _ => h)).trans h5 (fun _ h _ => h)⟩
    | ok s r2 =>
     obtain ⟨_, rfl, rfl, h4, h5⟩ := hr
     refine .inl ⟨_, rfl, hK _ _ ⟨hC.keep.trans h5 (fun _ h _ => h), fun _ => lay_eq, fun h => by rw [show Reg.lay Ls 3 10 = Ls 10 from lay_ne (by decide)] at h; have := (hC.c2 h).2; rw [h7] at this; exact absurd this (by decide), fun h => by rw [show Reg.lay Ls 3 8 = Ls 8 from lay_ne (by decide)] at h; have := hC.c4 h; rw [h7] at this; exact absurd this (by decide), fun h => by rw [show Reg.lay Ls 3 3 = true from lay_eq] at h; exact absurd h (by decide), fun h => by rw [show Reg.lay Ls 3 8 = Ls 8 from lay_ne (by decide)] at h; have := hC.c4 h; rw [h7] at this; exact absurd this (by decide), fun _ => ⟨s, r2, rfl, upd_eq, fun _ => h4, fun h => by rw [show Reg.lay Ls 3 7 = Ls 7 from lay_ne (by decide), h7] at h; exact absurd h (by decide)⟩, fun h => ?_⟩ trivial trivial⟩
     rw [show Reg.lay Ls 3 9 = Ls 9 from lay_ne (by decide)] at h
     obtain ⟨X, q1, q2, q3, q4⟩ := hC.s9 h
     have hsz := HKW1.out.size
     refine ⟨X, by rw [show Reg.upd vs 3 _ 9 = vs 9 from upd_ne (by decide)]; exact q1, q2, fun h10 => block_keep (q3 (by rwa [show Reg.lay Ls 3 10 = Ls 10 from lay_ne (by decide)] at h10)) h5 (by simp; omega), fun h10 => ?_⟩
     rw [show Reg.lay Ls 3 10 = Ls 10 from lay_ne (by decide)] at h10
     have := (hC.c2 h10).2; rw [h7] at this; cases this
   ·
    have hL' : Ls 7 = false := hL
    have h3 : Ls 3 = true := Reg.aw_get ha { on := 3, ground := Ground.chain } (by simp) rfl
    obtain ⟨s, r2, q1, q2, q3, q4⟩ := hC.s1 h3
    have hpar := params_any w' b n 0 0 r2 f (q3 hL') (by omega) (by have := HLENN.out s r2 q1; have := HLR1.out; have := HF.out; omega)
    have hRR : R = (Px.params f r2).bind fun ps r => (if Px.sees r [123] then Px.inner f 1 r.tail else .err 51 r).bind fun p r => (Px.passR [125] r).bind fun _ r => .ok (⟨s, ps, p.1.1, p.1.2⟩, p.2) r := by rw [HR.out, q1]; rfl
    refine hpar.mono ?_
    intro e w'' hr
    generalize hpp : Px.params f r2 = rp at hr hRR
    cases rp with
    | err z r =>
     obtain ⟨rfl, h4, h5⟩ := hr
     exact .inr ⟨_, rfl, z, r, hRR, rfl, h4, (HKW1.out.trans hC.keep (fun _ h _ => h)).trans h5 (fun _ h _ => h)⟩
    | ok ps r3 =>
     obtain ⟨v, rfl, h3v, h4, h5⟩ := hr
     obtain ⟨A, c, rfl⟩ := h3v.form
     refine .inl ⟨_, rfl, hK _ _ ⟨hC.keep.trans h5 (fun _ h _ => h), fun _ => by rw [show Reg.lay Ls 7 3 = Ls 3 from lay_ne (by decide)]; exact h3, fun h => by rw [show Reg.lay Ls 7 10 = Ls 10 from lay_ne (by decide)] at h; have := (hC.c2 h).2; rw [hL'] at this; exact absurd this (by decide), fun _ => lay_eq, fun h => by rw [show Reg.lay Ls 7 3 = Ls 3 from lay_ne (by decide), h3] at h; exact absurd h (by decide), fun h => by rw [show Reg.lay Ls 7 8 = Ls 8 from lay_ne (by decide)] at h; have := hC.c4 h; rw [hL'] at this; exact absurd this (by decide), fun _ => ⟨s, r2, q1, by rw [show Reg.upd vs 7 _ 3 = vs 3 from upd_ne (by decide)]; exact q2, fun h => by rw [show Reg.lay Ls 7 7 = true from lay_eq] at h; exact absurd h (by decide), fun _ => ⟨ps, r3, A, c, hpp, upd_eq, by rw [show Reg.upd vs 7 _ 7 = _ from upd_eq]; exact h3v, h4⟩⟩, fun h => ?_⟩ trivial trivial⟩
     rw [show Reg.lay Ls 7 9 = Ls 9 from lay_ne (by decide)] at h
     obtain ⟨X, p1, p2, p3, p4⟩ := hC.s9 h
     have hsz := HKW1.out.size
     refine ⟨X, by rw [show Reg.upd vs 7 _ 9 = vs 9 from upd_ne (by decide)]; exact p1, p2, fun h10 => block_keep (p3 (by rwa [show Reg.lay Ls 7 10 = Ls 10 from lay_ne (by decide)] at h10)) h5 (by simp; omega), fun h10 => ?_⟩
     rw [show Reg.lay Ls 7 10 = Ls 10 from lay_ne (by decide)] at h10
     have := (hC.c2 h10).2; rw [hL'] at this; cases this
   ·
    have h3 : Ls 3 = true := Reg.aw_get ha { on := 3, ground := Ground.data } (by simp) rfl
    have h7 : Ls 7 = true := Reg.aw_get ha { on := 7, ground := Ground.data } (by simp) rfl
    obtain ⟨s, r2, q1, q2, q3, q4⟩ := hC.s1 h3
    obtain ⟨ps, r3, A, c, p1, p2, p3, p4⟩ := q4 h7
    rw [q2, p2]
    go_simp
    simp only [RegP.gives_value]
    refine hK _ _ ⟨hC.keep, fun _ => by rw [show Reg.lay Ls 8 3 = Ls 3 from lay_ne (by decide)]; exact h3, fun h => ?_, fun _ => by rw [show Reg.lay Ls 8 7 = Ls 7 from lay_ne (by decide)]; exact h7, fun h => by rw [show Reg.lay Ls 8 3 = Ls 3 from lay_ne (by decide), h3] at h; exact absurd h (by decide), fun _ => ?_, fun _ => ⟨s, r2, q1, by rw [show Reg.upd vs 8 _ 3 = vs 3 from upd_ne (by decide)]; exact q2, fun h => by rw [show Reg.lay Ls 8 7 = Ls 7 from lay_ne (by decide), h7] at h; exact absurd h (by decide), fun _ => ⟨ps, r3, A, c, p1, by rw [show Reg.upd vs 8 _ 7 = vs 7 from upd_ne (by decide)]; exact p2, by rw [show Reg.upd vs 8 _ 7 = vs 7 from upd_ne (by decide)]; exact p3, p4⟩⟩, ?_⟩ trivial trivial
    ·
     rw [show Reg.lay Ls 8 10 = Ls 10 from lay_ne (by decide)] at h
     rw [show Reg.lay Ls 8 9 = Ls 9 from lay_ne (by decide), show Reg.lay Ls 8 7 = Ls 7 from lay_ne (by decide)]
     exact hC.c2 h
    · rw [show Reg.upd vs 8 _ 8 = _ from upd_eq, show Reg.upd vs 8 _ 3 = vs 3 from upd_ne (by decide), show Reg.upd vs 8 _ 7 = vs 7 from upd_ne (by decide), q2, p2]
    ·
     rw [show Reg.lay Ls 8 9 = Ls 9 from lay_ne (by decide), show Reg.lay Ls 8 10 = Ls 10 from lay_ne (by decide), show Reg.upd vs 8 _ 9 = vs 9 from upd_ne (by decide), show Reg.upd vs 8 _ 3 = vs 3 from upd_ne (by decide), show Reg.upd vs 8 _ 7 = vs 7 from upd_ne (by decide)]
     exact hC.s9
   ·
    have hL' : Ls 9 = false := hL
    have h10 : Ls 10 = false := by
     cases h : Ls 10 with
     | false => rfl
     | true => have := (hC.c2 h).1; rw [hL'] at this; cases this
    have hk := (Keeps.refl [] w').alloc (.cells #[.string ⟨#[]⟩, .slice none 0 0, .slice none 0 0, .slice none 0 0] 26)
    refine hK _ _ ⟨hC.keep.alloc _, ?_, ?_, ?_, ?_, ?_, ?_, fun _ => ⟨w'.heap.size, upd_eq, hC.keep.size, fun _ => heap_alloc_new _ _, fun h => ?_⟩⟩ trivial trivial
    · rw [show Reg.lay Ls 9 7 = Ls 7 from lay_ne (by decide), show Reg.lay Ls 9 3 = Ls 3 from lay_ne (by decide)]; exact hC.c1
    · rw [show Reg.lay Ls 9 10 = Ls 10 from lay_ne (by decide), h10]; intro h; cases h
    · rw [show Reg.lay Ls 9 8 = Ls 8 from lay_ne (by decide), show Reg.lay Ls 9 7 = Ls 7 from lay_ne (by decide)]; exact hC.c4
    · rw [show Reg.lay Ls 9 3 = Ls 3 from lay_ne (by decide)]; exact fun h => (hC.s0 h).keep hk
    · rw [show Reg.lay Ls 9 8 = Ls 8 from lay_ne (by decide), show Reg.upd vs 9 _ 8 = vs 8 from upd_ne (by decide), show Reg.upd vs 9 _ 3 = vs 3 from upd_ne (by decide), show Reg.upd vs 9 _ 7 = vs 7 from upd_ne (by decide)]; exact hC.s8
    ·
     rw [show Reg.lay Ls 9 3 = Ls 3 from lay_ne (by decide), show Reg.lay Ls 9 7 = Ls 7 from lay_ne (by decide), show Reg.upd vs 9 _ 3 = vs 3 from upd_ne (by decide), show Reg.upd vs 9 _ 7 = vs 7 from upd_ne (by decide)]
     intro h
     obtain ⟨s, r2, q1, q2, q3, q4⟩ := hC.s1 h
     exact ⟨s, r2, q1, q2, fun h => (q3 h).keep hk, fun h => by
      obtain ⟨ps, r3, A, c, p1, p2, p3, p4⟩ := q4 h
      exact ⟨ps, r3, A, c, p1, p2, p3.keep hk (by simp), p4.keep hk⟩⟩
    · rw [show Reg.lay Ls 9 10 = Ls 10 from lay_ne (by decide), h10] at h; cases h
   ·
    have hL' : Ls 10 = false := hL
    have h9 : Ls 9 = true := Reg.aw_get ha { on := 9, ground := Ground.data } (by simp) rfl
    have h8 : Ls 8 = true := Reg.aw_get ha { on := 8, ground := Ground.data } (by simp) rfl
    have h7 : Ls 7 = true := hC.c4 h8
    have h3 : Ls 3 = true := hC.c1 h7
    obtain ⟨s, r2, q1, q2, q3, q4⟩ := hC.s1 h3
    obtain ⟨ps, r3, A, c, p1, p2, p3, p4⟩ := q4 h7
    obtain ⟨X, x1, x2, x3, x4⟩ := hC.s9 h9
    have hv8 := hC.s8 h8
    have hrow := x3 hL'
    have hsz := HKW1.out.size
    rw [q2, p2] at hv8
    rw [x1, hv8]
    obtain ⟨c0, f0, c1, f1, c2, f2, c3, f3⟩ := row4 hrow
    go_simp
    try simp only [RegP.gives_value, RegP.gives_skip]
    have hk : Keeps [X] w' ((((w'.setCell ⟨X, 0, none⟩ (.string (strO s))).setCell ⟨X, 1, none⟩ (.slice A ps.length c)).setCell ⟨X, 2, none⟩ (.slice none 0 0)).setCell ⟨X, 3, none⟩ (.slice none 0 0)) := by
     repeat (refine Keeps.setCell ?_ (by simp) _)
     exact Keeps.refl _ _
    have hx : ((((w'.setCell ⟨X, 0, none⟩ (.string (strO s))).setCell ⟨X, 1, none⟩ (.slice A ps.length c)).setCell ⟨X, 2, none⟩ (.slice none 0 0)).setCell ⟨X, 3, none⟩ (.slice none 0 0)).heap[X]? = some (.cells #[.string (strO s), .slice A ps.length c, .slice none 0 0, .slice none 0 0] 26 (0, 0)) := by
     rw [row_set (row_set (row_set (row_set hrow 0 _) 1 _) 2 _) 3 _]; rfl
    have hnt : ∀ y ∈ [X], y ≤ b ∨ NotT w' y 123 := fun y hy => .inr (by
     obtain rfl : y = X := by simpa using hy
     exact NotT.of hrow (by decide))
    refine hK _ _ ⟨hC.keep.hi hk (by simp; omega), fun _ => by rw [show Reg.lay Ls 10 3 = Ls 3 from lay_ne (by decide)]; exact h3, fun _ => by rw [show Reg.lay Ls 10 9 = Ls 9 from lay_ne (by decide), show Reg.lay Ls 10 7 = Ls 7 from lay_ne (by decide)]; exact ⟨h9, h7⟩, fun _ => by rw [show Reg.lay Ls 10 7 = Ls 7 from lay_ne (by decide)]; exact h7, fun h => by rw [show Reg.lay Ls 10 3 = Ls 3 from lay_ne (by decide), h3] at h; exact absurd h (by decide), fun _ => ?_, fun _ => ⟨s, r2, q1, by rw [show Reg.upd vs 10 _ 3 = vs 3 from upd_ne (by decide)]; exact q2, fun h => by rw [show Reg.lay Ls 10 7 = Ls 7 from lay_ne (by decide), h7] at h; exact absurd h (by decide), fun _ => ⟨ps, r3, A, c, p1, by rw [show Reg.upd vs 10 _ 7 = vs 7 from upd_ne (by decide)]; exact p2, by rw [show Reg.upd vs 10 _ 7 = vs 7 from upd_ne (by decide)]; exact p3.keep hk hnt, p4.keepHi hk (by simp; omega)⟩⟩, fun _ => ⟨X, by rw [show Reg.upd vs 10 _ 9 = vs 9 from upd_ne (by decide)]; exact x1, x2, fun h => by rw [show Reg.lay Ls 10 10 = true from lay_eq] at h; exact absurd h (by decide), fun _ => ?_⟩⟩ trivial trivial
    · rw [show Reg.upd vs 10 _ 8 = vs 8 from upd_ne (by decide), show Reg.upd vs 10 _ 3 = vs 3 from upd_ne (by decide), show Reg.upd vs 10 _ 7 = vs 7 from upd_ne (by decide)]; exact hC.s8 h8
    · rw [show Reg.upd vs 10 _ 3 = vs 3 from upd_ne (by decide), show Reg.upd vs 10 _ 7 = vs 7 from upd_ne (by decide), q2, p2]; exact hx
  case hend =>
   intro vs w3 hC hall
   obtain ⟨a2, r2, q1, q2, -, q4⟩ := hC.s1 rfl
   obtain ⟨a3, r3, A3, c3, p1, p2, p3, p4⟩ := q4 rfl
   obtain ⟨X2, x1, x2, -, x4⟩ := hC.s9 rfl
   have hrow := x4 rfl
   have hHL2 := HLENN.out a2 r2 q1
   have hHL3 := Px.params_len p1
   simp only [Reg.All, Reg.Is, and_true, Nat.zero_add, Nat.reduceAdd, AnyF, true_and] at hall
   obtain ⟨z0, z1, z2, z4, z5, z6⟩ := hall
   have hv8 := hC.s8 rfl
   rw [q2, p2] at hrow hv8
   rw [p2] at p3
   have hsz := HKW1.out.size
   have hsz1 : w.heap.size + 2 ≤ w1.heap.size := block_lt HB1.out
   have HSZ3 := Hd (show w.heap.size + 2 ≤ X2 by omega)
   have HL2 := Hd hHL2
   have HL3 := Hd hHL3
   have HX2 := Hd (show w1.heap.size ≤ X2 from x2)
   have HWA := Hd p4
   have HKA := Hd (HKW1.out.trans hC.keep (fun _ h _ => h))
   have HVA := Hd p3
   have HB0 := Hd (block_keep HB0.out hC.keep (by simp; omega))
   have HB1 := Hd (block_keep HB1.out hC.keep (by simp; omega))
   have HB2 := Hd hrow
   have HB2X := HB2
   have hR := HR.out
   rw [q1] at hR
   simp only [Px.bind_ok] at hR
   rw [p1] at hR
   simp only [Px.bind_ok] at hR
   have HR := Hd hR
   have hp3 := row_cell HB0.out 0
   simp only [List.getElem?_toArray, List.getElem?_cons_zero] at hp3
   simp only [x1, q2, p2, hv8, z0, z1, z2, z4, z5, z6]
   clear hC q1 q2 q4 p1 p2 p3 p4 x1 x2 x4 hrow hv8 z0 z1 z2 z4 z5 z6 hR hsz hsz1 hHL2 hHL3 hbl hxb
   have HWI := Hd (show ∀ w', PAt w' b n r3 0 0 → w'.heap[w.heap.size]? = some (.cells #[pp b] 129 (0, 0)) → w'.heap[X2]? = some (.cells #[.string (strO a2), .slice A3 a3.length c3, .slice none 0 0, .slice none 0 0] 26 (0, 0)) → Calls Tryz.prog 80 #[pp b, .string (strO [123]), .func (.func 81) #[] #[.pointer (some ⟨w.heap.size, 0, none⟩), .pointer (some ⟨X2, 0, none⟩)]] w' (IP X2 (.string (strO a2)) (.slice A3 a3.length c3) w' b n 0 (if Px.sees r3 [123] then Px.inner f 1 r3.tail else .err 51 r3)) from fun w' h' q0 q2 => by
    have hbl := HBL.out
    have hs3 := HSZ3.out
    by_cases hs : Px.sees r3 [123] = true
    ·
     rw [if_pos hs]
     obtain ⟨t, ht⟩ := tail_of (by simp) hs
     obtain ⟨r, hr⟩ : ∃ r, r = r3.tail := ⟨_, rfl⟩
     rw [← hr] at ht ⊢
     have hl : r.length < r3.length := by rw [ht]; simp
     rw [ht] at h' hs
     refine within_fn w' b n 0 0 t r h' [123] hs (by omega) w.heap.size X2 (.string (strO a2)) (.slice A3 a3.length c3) (by omega) (Px.inner f 1 r) (fun w1 h1 hk1 => ?_)
     exact inner_any w1 b n 1 r f X2 w.heap.size _ _ h1 (by omega) (by have := HF.out; have := HL1.out; have := HL2.out; have := HL3.out; omega) (row_cell (block_keep q0 hk1 (by simp; omega)) 0) (by omega) (block_keep q2 hk1 (by simp; omega)) (by omega) (by omega)
    ·
     rw [if_neg hs]
     refine (within_no_S w' b n 0 0 r3 h' [123] (by simpa using hs) _).mono fun e w'' he => ?_
     obtain ⟨q5, q6⟩ := he
     subst q6
     exact ⟨q5, ⟨_, _, h'⟩, Keeps.refl _ _⟩)
   have hR := HR.out
   obtain ⟨rr, hrr⟩ : ∃ x, x = (if Px.sees r3 [123] then Px.inner f 1 r3.tail else .err 51 r3) := ⟨_, rfl⟩
   rw [← hrr] at HWI hR
   have HR := Hd hR
   clear hR hrr
   go_wp2_with fail
   refine (HWI.out _ HWA.out HB0.out HB2.out).mono ?_
   intro e w4 hr
   cases rr with
   | err z r =>
    obtain ⟨rfl, h4, h5⟩ := hr
    have H4 := Hd h4
    have H5 := Hd (HKA.out.trans h5 (fun y hy hl => by have := HSZ3.out; simp at hy ⊢; omega))
    clear h4 h5
    go_wp2
    rw [HR.out]
    exact ⟨rfl, rfl, H4.out, H5.out⟩
   | ok a4 r4 =>
    obtain ⟨v4, vl, rfl, h3, h3v, h3f, h4, h5⟩ := hr
    have HSS := Hd h3
    have HVL := Hd h3v
    have HB2 := Hd h3f
    obtain ⟨A4, c4, rfl⟩ := h3.form
    obtain ⟨Al, cl, rfl⟩ := h3v.form
    have hbl := HBL.out
    have hs3 := HSZ3.out
    have HVP := Hd (HVA.out.keep h5 (fun y hy => by simp at hy; rcases hy with rfl | rfl; exact .inl (Nat.le_refl _); exact .inr (NotT.of HB2X.out (by decide))))
    have HB0 := Hd (block_keep HB0.out h5 (by simp; omega))
    have HB1 := Hd (block_keep HB1.out h5 (by simp; omega))
    have HW4 := Hd h4
    have HKW4 := Hd (HKA.out.trans h5 (fun y hy hl => by simp at hy ⊢; omega))
    clear h3 h3v h3f h4 h5 hbl hs3
    have hR := HR.out
    simp only [Px.bind_ok] at hR
    have HC5 := Hd (fun w' (h' : PAt w' b n r4 0 a4.2) => pass_rp w' b n 0 a4.2 r4 h' [125] (by simp))
    obtain ⟨rq, hrq⟩ : ∃ x, x = Px.passR [125] r4 := ⟨_, rfl⟩
    rw [← hrq] at HC5 hR
    have HR := Hd hR
    clear hR hrq
    obtain ⟨g3, gf3⟩ := rowi HB2.out 3
    have hp4 := row_cell HB0.out 0
    simp only [List.getElem?_toArray, List.getElem?_cons_zero] at hp4
    have hx2 := HSZ3.out
    have hs3 := HSZ3.out
    have hbl := HBL.out
    have hk6 := (Keeps.refl [X2] w4).setCell (p := ⟨X2, 3, none⟩) (by simp) (.slice A4 a4.1.2.length c4)
    have hp6 : (w4.setCell ⟨X2, 3, none⟩ (.slice A4 a4.1.2.length c4)).cell? ⟨w.heap.size, 0, none⟩ = some (pp b) := by
     have := row_cell (block_keep HB0.out hk6 (by simp; omega)) 0
     simpa using this
    have HB06 := Hd (block_keep HB0.out hk6 (by simp; omega))
    have HB16 := Hd (block_keep HB1.out hk6 (by simp; omega))
    have HB26 := Hd (show (w4.setCell ⟨X2, 3, none⟩ (.slice A4 a4.1.2.length c4)).heap[X2]? = some (.cells #[.string (strO a2), .slice A3 a3.length c3, .slice Al a4.1.1.length cl, .slice A4 a4.1.2.length c4] 26 (0, 0)) by rw [row_set HB2.out]; rfl)
    have HW6 := Hd (HW4.out.keepHi hk6 (by simp; omega))
    have HKW6 := Hd (HKW4.out.hi hk6 (by simp; omega))
    have hntv : ∀ y ∈ [X2], y ≤ b ∨ NotT w4 y 123 := fun y hy => .inr (by
     obtain rfl : y = X2 := by simpa using hy
     exact NotT.of HB2.out (by decide))
    have HVP6 := Hd (HVP.out.keep hk6 hntv)
    have HVL6 := Hd (HVL.out.keep hk6 hntv)
    have HSS6 := Hd (HSS.out.keepF hk6 HB2.out)
    clear hntv hk6 hx2 hs3 hbl
    go_wp2_with fail
    refine (HC5.out _ HW6.out).mono ?_
    intro e w7 hr
    cases rq with
    | err z r =>
     obtain ⟨rfl, H4, H5⟩ := zE hr HKW6
     go_wp2
     rw [HR.out]
     exact ⟨rfl, rfl, H4.out, H5.out⟩
    | ok u7 r7 =>
     obtain ⟨_, rfl, rfl, h4, h5⟩ := hr
     have hR := HR.out
     simp only [Px.bind_ok] at hR
     have HR := Hd hR
     have hx2 := HSZ3.out
     have hs3 := HSZ3.out
     have hbl := HBL.out
     have HB1 := Hd (block_keep HB16.out h5 (by simp; omega))
     have HB2 := Hd (block_keep HB26.out h5 (by simp; omega))
     have HVP := Hd (HVP6.out.keep h5 (by simp))
     have HVL := Hd (HVL6.out.keep h5 (by simp))
     have HSS := Hd (HSS6.out.keepb h5)
     have HP := Hd h4
     have HK := zV HKW6 h5
     clear hR h4 h5 hx2 hs3 hbl g3 gf3 hp4 hp6
     obtain ⟨X1, hX1⟩ : ∃ x, x = w.heap.size + 1 := ⟨_, rfl⟩
     rw [← hX1] at HB1
     simp only [← hX1]
     have hne1 : X1 ≠ X2 := by have := HSZ3.out; omega
     have hne2 : X2 ≠ X1 := fun h => hne1 h.symm
     have HX1 := Hd hX1
     clear hX1
     have hrow := HB1.out
     obtain ⟨c1_0, f1_0, c1_1, f1_1, c1_2, f1_2, c1_3, f1_3⟩ := row4 hrow
     clear hrow
     have hrow := HB2.out
     obtain ⟨c2_0, f2_0, c2_1, f2_1, c2_2, f2_2, c2_3, f2_3⟩ := row4 hrow
     clear hrow
     go_wp2_with fail
     refine bodyPost_ret (v := .agg #[.string (strO a2), .slice A3 a3.length c3, .slice Al a4.1.1.length cl, .slice A4 a4.1.2.length c4]) (by simp [results, Tryz.results34, go_sem, c1_0, c1_1, c1_2, c1_3, c2_0, c2_1, c2_2, c2_3]) rfl ?_
     refine setsEnd (S := [X1]) (w := w7) ?_ ?_
     ·
      repeat (refine Keeps.setCell ?_ (by simp) _)
      exact Keeps.refl _ _
     ·
      intro W hk
      have hx1 := HX1.out
      have hbl := HBL.out
      have hntv : ∀ y ∈ [X1], y ≤ b ∨ NotT w7 y 123 := fun y hy => .inr (by
       obtain rfl : y = X1 := by simpa using hy
       exact NotT.of HB1.out (by decide))
      rw [HR.out]
      exact ⟨_, rfl, ⟨_, _, _, rfl, HVP.out.keep hk hntv, HVL.out.keep hk hntv, HSS.out.keepF hk HB1.out⟩, HP.out.keepHi hk (by simp; omega), HK.out.hi hk (by simp; omega)⟩
end
section
set_option maxHeartbeats 2000000
set_option maxRecDepth 100000
open Go.RowKit Go.Shelf
open Lx (Tok Tx)
open Px (Ex Cn Sm Vr)
def DP (X1 X2 : Nat) (pl : Nat) (z : Int) (w w' : World) : Prop := Keeps [X1, X2] w w' ∧ w'.heap[X1]? = some (.cells #[.int .i64 (pl : Int)] 3 (0, 0)) ∧ w'.heap[X2]? = some (.cells #[.int .i64 z] 27 (0, 0))
structure DR (w : World) (X1 X2 pl : Nat) (z : Int) (v1 v2 : Value) (L : Nat → Bool) (w' : World) : Prop where
 keep : Keeps [X1, X2] w w'
 k0 : L 6 = false → Keeps [] w w'
 r1 : L 6 = true → w'.heap[X1]? = some (.cells #[.int .i64 (pl : Int)] 3 (0, 0))
 r2 : L 7 = true → w'.heap[X2]? = some (.cells #[.int .i64 z] 27 (0, 0))
 r2o : L 7 = false → w'.heap[X2]? = some (.cells #[v2] 27 (0, 0))
 up : L 7 = true → L 6 = true
 up3 : L 6 = true → L 3 = true
 r1o : L 6 = false → w'.heap[X1]? = some (.cells #[v1] 3 (0, 0))
theorem DR.lay {w : World} {X1 X2 pl : Nat} {z : Int} {v1 v2 : Value} {L : Nat → Bool} {w' : World} (h : DR w X1 X2 pl z v1 v2 L w') {i : Nat} (hi : i ≠ 6 ∧ i ≠ 7) : DR w X1 X2 pl z v1 v2 (Reg.lay L i) w' := by
 obtain ⟨h6, h7⟩ := hi
 refine ⟨h.keep, ?_, ?_, ?_, ?_, ?_, ?_, ?_⟩
 · rw [lay_ne h6]; exact h.k0
 · rw [lay_ne h6]; exact h.r1
 · rw [lay_ne h7]; exact h.r2
 · rw [lay_ne h7]; exact h.r2o
 · rw [lay_ne h6, lay_ne h7]; exact h.up
 · rw [lay_ne h6]; intro hh; unfold Reg.lay; rw [h.up3 hh]; rfl
 · rw [lay_ne h6]; exact h.r1o
theorem idle_F (q1 q2 q3 : Addr) (w : World) :
 CallsD Tryz.prog 73 #[.pointer (some q1), .pointer (some q2), .pointer (some q3)] .returning w fun e u' w' => e = .returned (.tuple #[]) ∧ u' = .returning ∧ w' = w := by
 refine callsD_of_wpS Tryz.func73 rfl fun c₀ cs hu => ?_
 apply wpS_seq
 apply wpS_region
 simp [wpOpsS, go_sem, recoverD, hu, Tryz.ntmps73, Exit.thenS]
 refine wpS_of_wp ?_
 go_wp2_with fail
 cases c₀
 simp_all [bodyPostS, results, Tryz.results73]
theorem panicking_F (b n o k X1 X2 q : Nat) (ts : List Tok) (z : Int) (v1 v2 : Value) (older : List PanicEntry) (w : World) (h : PAt w b n ts o k) (hq : w.cell? ⟨q, 0, none⟩ = some (pp b)) (h1 : w.heap[X1]? = some (.cells #[v1] 3 (0, 0))) (h2 : w.heap[X2]? = some (.cells #[v2] 27 (0, 0))) (hne : X1 ≠ X2) (hq1 : q ≠ X1) (hq2 : q ≠ X2) :
 CallsD Tryz.prog 73 #[.pointer (some ⟨q, 0, none⟩), .pointer (some ⟨X1, 0, none⟩), .pointer (some ⟨X2, 0, none⟩)] (.panicking ({ v := .iface 27 (.int .i64 z), recovered := false } :: older)) w fun e u' w' =>
  e = .returned (.tuple #[]) ∧ u' = .panicking ({ v := .iface 27 (.int .i64 z), recovered := true } :: older) ∧ DP X1 X2 (Px.place n ts) z w w' := by
 have HO := Hd (fun w' h' => offset_any w' b n o k ts h')
 have H := Hd h
 have HQ := Hd hq
 have H1 := Hd h1
 have H2 := Hd h2
 obtain ⟨pl, hpl⟩ : ∃ p, p = Px.place n ts := ⟨_, rfl⟩
 rw [← hpl] at HO ⊢
 clear h hq h1 h2 hpl
 refine callsD_of_wpS Tryz.func73 rfl fun c₀ cs hu => ?_
 apply wpS_seq
 apply wpS_region
 simp [wpOpsS, go_sem, recoverD, hu, Tryz.ntmps73, Exit.thenS]
 refine wpS_of_wp ?_
 go_wp2_with fail
 have efr : (#[Value.pointer (some ⟨q, 0, none⟩), Value.pointer (some ⟨X1, 0, none⟩), Value.pointer (some ⟨X2, 0, none⟩)] ++ ((((Array.replicate 10 undef).setIfInBounds 1 (Value.iface 27 (.int .i64 z))).setIfInBounds 0 (Value.iface 27 (.int .i64 z))).setIfInBounds 2 (Value.iface 27 (.int .i64 z))).setIfInBounds 3 (Value.bool true)) = #[Value.pointer (some ⟨q, 0, none⟩), Value.pointer (some ⟨X1, 0, none⟩), Value.pointer (some ⟨X2, 0, none⟩), (Value.iface 27 (.int .i64 z)), (Value.iface 27 (.int .i64 z)), (Value.iface 27 (.int .i64 z)), Value.bool true, undef, undef, undef, undef, undef, undef] := rfl
 rw [efr]
 clear efr
 refine Reg.wp_region_free (fun L _ w' => DR w X1 X2 pl z v1 v2 L w') (fun _ _ => True) (A := ?A)
  [Reg.Is (pp b), Reg.Is (pp b), Reg.Is (pp b), Reg.Is (.int .i64 (pl : Int)), Reg.Is (.iface 27 (.int .i64 z)), Reg.Is (.int .i64 z), AnyF, AnyF]
  (by kernel_rfl) (by kernel_rfl) rfl ?hA ?hC ?ho ?hlast ?hend
 case hA => intro vs; simp only [Reg.fill, if_true, Nat.zero_add, Nat.reduceAdd, Act.put, List.setIfInBounds_toArray, List.set_cons_succ, List.set_cons_zero]; exact rfl
 case hC => exact fun vs => ⟨(Keeps.refl _ _).drew, fun _ => (Keeps.refl _ _).drew, fun hl => by simp at hl, fun hl => by simp at hl, fun _ => H2.out, fun hl => by simp at hl, fun hl => by simp at hl, fun _ => H1.out⟩
 case hlast => repeat (first | exact trivial | refine ⟨fun _ _ _ h _ => h, ?_⟩)
 case ho =>
  repeat' apply And.intro
  all_goals
   first
    | exact trivial
    | (
     intro Ls vs w' hC hL hd ha K hK
     try simp only [Reg.Deps, Reg.at_, List.getD_cons_zero, List.getD_cons_succ, Region.binds, true_implies, Reg.Is, and_true, AnyF, true_and] at hd
     have hq := hC.keep.cell_some HQ.out (by simp; omega)
     try simp only [Reg.wantedV, if_true]
     try go_simp
     try simp only [Reg.gives_value, Reg.gives_skip, Reg.gives_enter]
     first
      | exact hK _ _ (hC.lay (by decide)) trivial rfl
      | exact hK _ _ (hC.lay (by decide)) trivial trivial
      | skip)
  ·
   have hL' : Ls 3 = false := hL
   have h6 : Ls 6 = false := by
    cases h : Ls 6 with
    | false => rfl
    | true => have := hC.up3 h; rw [hL'] at this; cases this
   refine (HO.out _ (H.out.keep (hC.k0 h6))).mono ?_
   rintro e w'' ⟨rfl, rfl⟩
   exact ⟨_, rfl, hK _ _ (hC.lay (by decide)) trivial rfl⟩
  ·
   have hL' : Ls 6 = false := hL
   have h7 : Ls 7 = false := by
    cases h : Ls 7 with
    | false => rfl
    | true => have := hC.up h; rw [hL'] at this; cases this
   have h3 : Ls 3 = true := Reg.aw_get ha { on := 3, ground := Ground.data } (by simp) rfl
   have hr := hC.r1o hL'
   have c0 := row_cell hr 0
   have f0 := row_free hr 0
   simp only [List.getElem?_toArray, List.getElem?_cons_zero] at c0
   simp only [c0, f0]
   go_simp
   try simp only [Reg.gives_value, Reg.gives_skip]
   refine hK _ _ ⟨hC.keep.setCell (fun _ => by simp) _, fun h => by rw [show Reg.lay Ls 6 6 = true from lay_eq] at h; exact absurd h (by decide), fun _ => by rw [row_set hr]; rfl, fun h => by rw [show Reg.lay Ls 6 7 = Ls 7 from lay_ne (by decide), h7] at h; exact absurd h (by decide), fun _ => by rw [set_other (Ne.symm hne)]; exact hC.r2o h7, fun _ => lay_eq, fun _ => by rw [show Reg.lay Ls 6 3 = Ls 3 from lay_ne (by decide)]; exact h3, fun h => by rw [show Reg.lay Ls 6 6 = true from lay_eq] at h; exact absurd h (by decide)⟩ trivial trivial
  ·
   have hL' : Ls 7 = false := hL
   have h6 : Ls 6 = true := Reg.aw_get ha { on := 6, ground := Ground.chain } (by simp) rfl
   have hr := hC.r2o hL'
   have c0 := row_cell hr 0
   have f0 := row_free hr 0
   simp only [List.getElem?_toArray, List.getElem?_cons_zero] at c0
   simp only [c0, f0]
   go_simp
   try simp only [Reg.gives_value, Reg.gives_skip]
   refine hK _ _ ⟨hC.keep.setCell (fun _ => by simp) _, fun h => by rw [show Reg.lay Ls 7 6 = Ls 6 from lay_ne (by decide), h6] at h; exact absurd h (by decide), fun _ => by rw [set_other hne]; exact hC.r1 h6, fun _ => by rw [row_set hr]; rfl, fun h => by rw [show Reg.lay Ls 7 7 = true from lay_eq] at h; exact absurd h (by decide), fun _ => by rw [show Reg.lay Ls 7 6 = Ls 6 from lay_ne (by decide)]; exact h6, fun _ => by rw [show Reg.lay Ls 7 3 = Ls 3 from lay_ne (by decide)]; exact hC.up3 h6, fun h => by rw [show Reg.lay Ls 7 6 = Ls 6 from lay_ne (by decide), h6] at h; exact absurd h (by decide)⟩ trivial trivial
 case hend =>
  intro vs w' hC hall
  have hdp : DP X1 X2 pl z w w' := ⟨hC.keep, hC.r1 rfl, hC.r2 rfl⟩
  clear hC hall
  go_wp2_with fail
  cases c₀
  simp_all [bodyPostS, results, Tryz.results73]
theorem idle_G (q1 q2 q3 : Addr) (w : World) :
 CallsD Tryz.prog 85 #[.pointer (some q1), .pointer (some q2), .pointer (some q3)] .returning w fun e u' w' => e = .returned (.tuple #[]) ∧ u' = .returning ∧ w' = w := by
 refine callsD_of_wpS Tryz.func85 rfl fun c₀ cs hu => ?_
 apply wpS_seq
 apply wpS_region
 simp [wpOpsS, go_sem, recoverD, hu, Tryz.ntmps85, Exit.thenS]
 refine wpS_of_wp ?_
 go_wp2_with fail
 cases c₀
 simp_all [bodyPostS, results, Tryz.results85]
theorem panicking_G (b n o k X1 X2 q : Nat) (ts : List Tok) (z : Int) (v1 v2 : Value) (older : List PanicEntry) (w : World) (h : PAt w b n ts o k) (hq : w.cell? ⟨q, 0, none⟩ = some (pp b)) (h1 : w.heap[X1]? = some (.cells #[v1] 3 (0, 0))) (h2 : w.heap[X2]? = some (.cells #[v2] 27 (0, 0))) (hne : X1 ≠ X2) (hq1 : q ≠ X1) (hq2 : q ≠ X2) :
 CallsD Tryz.prog 85 #[.pointer (some ⟨q, 0, none⟩), .pointer (some ⟨X1, 0, none⟩), .pointer (some ⟨X2, 0, none⟩)] (.panicking ({ v := .iface 27 (.int .i64 z), recovered := false } :: older)) w fun e u' w' =>
  e = .returned (.tuple #[]) ∧ u' = .panicking ({ v := .iface 27 (.int .i64 z), recovered := true } :: older) ∧ DP X1 X2 (Px.place n ts) z w w' := by
 have HO := Hd (fun w' h' => offset_any w' b n o k ts h')
 have H := Hd h
 have HQ := Hd hq
 have H1 := Hd h1
 have H2 := Hd h2
 obtain ⟨pl, hpl⟩ : ∃ p, p = Px.place n ts := ⟨_, rfl⟩
 rw [← hpl] at HO ⊢
 clear h hq h1 h2 hpl
 refine callsD_of_wpS Tryz.func85 rfl fun c₀ cs hu => ?_
 apply wpS_seq
 apply wpS_region
 simp [wpOpsS, go_sem, recoverD, hu, Tryz.ntmps85, Exit.thenS]
 refine wpS_of_wp ?_
 go_wp2_with fail
 have efr : (#[Value.pointer (some ⟨q, 0, none⟩), Value.pointer (some ⟨X1, 0, none⟩), Value.pointer (some ⟨X2, 0, none⟩)] ++ ((((Array.replicate 10 undef).setIfInBounds 1 (Value.iface 27 (.int .i64 z))).setIfInBounds 0 (Value.iface 27 (.int .i64 z))).setIfInBounds 2 (Value.iface 27 (.int .i64 z))).setIfInBounds 3 (Value.bool true)) = #[Value.pointer (some ⟨q, 0, none⟩), Value.pointer (some ⟨X1, 0, none⟩), Value.pointer (some ⟨X2, 0, none⟩), (Value.iface 27 (.int .i64 z)), (Value.iface 27 (.int .i64 z)), (Value.iface 27 (.int .i64 z)), Value.bool true, undef, undef, undef, undef, undef, undef] := rfl
 rw [efr]
 clear efr
 refine Reg.wp_region_free (fun L _ w' => DR w X1 X2 pl z v1 v2 L w') (fun _ _ => True) (A := ?A)
  [Reg.Is (pp b), Reg.Is (pp b), Reg.Is (pp b), Reg.Is (.int .i64 (pl : Int)), Reg.Is (.iface 27 (.int .i64 z)), Reg.Is (.int .i64 z), AnyF, AnyF]
  (by kernel_rfl) (by kernel_rfl) rfl ?hA ?hC ?ho ?hlast ?hend
 case hA => intro vs; simp only [Reg.fill, if_true, Nat.zero_add, Nat.reduceAdd, Act.put, List.setIfInBounds_toArray, List.set_cons_succ, List.set_cons_zero]; exact rfl
 case hC => exact fun vs => ⟨(Keeps.refl _ _).drew, fun _ => (Keeps.refl _ _).drew, fun hl => by simp at hl, fun hl => by simp at hl, fun _ => H2.out, fun hl => by simp at hl, fun hl => by simp at hl, fun _ => H1.out⟩
 case hlast => repeat (first | exact trivial | refine ⟨fun _ _ _ h _ => h, ?_⟩)
 case ho =>
  repeat' apply And.intro
  all_goals
   first
    | exact trivial
    | (
     intro Ls vs w' hC hL hd ha K hK
     try simp only [Reg.Deps, Reg.at_, List.getD_cons_zero, List.getD_cons_succ, Region.binds, true_implies, Reg.Is, and_true, AnyF, true_and] at hd
     have hq := hC.keep.cell_some HQ.out (by simp; omega)
     try simp only [Reg.wantedV, if_true]
     try go_simp
     try simp only [Reg.gives_value, Reg.gives_skip, Reg.gives_enter]
     first
      | exact hK _ _ (hC.lay (by decide)) trivial rfl
      | exact hK _ _ (hC.lay (by decide)) trivial trivial
      | skip)
  ·
   have hL' : Ls 3 = false := hL
   have h6 : Ls 6 = false := by
    cases h : Ls 6 with
    | false => rfl
    | true => have := hC.up3 h; rw [hL'] at this; cases this
   refine (HO.out _ (H.out.keep (hC.k0 h6))).mono ?_
   rintro e w'' ⟨rfl, rfl⟩
   exact ⟨_, rfl, hK _ _ (hC.lay (by decide)) trivial rfl⟩
  ·
   have hL' : Ls 6 = false := hL
   have h7 : Ls 7 = false := by
    cases h : Ls 7 with
    | false => rfl
    | true => have := hC.up h; rw [hL'] at this; cases this
   have h3 : Ls 3 = true := Reg.aw_get ha { on := 3, ground := Ground.data } (by simp) rfl
   have hr := hC.r1o hL'
   have c0 := row_cell hr 0
   have f0 := row_free hr 0
   simp only [List.getElem?_toArray, List.getElem?_cons_zero] at c0
   simp only [c0, f0]
   go_simp
   try simp only [Reg.gives_value, Reg.gives_skip]
   refine hK _ _ ⟨hC.keep.setCell (fun _ => by simp) _, fun h => by rw [show Reg.lay Ls 6 6 = true from lay_eq] at h; exact absurd h (by decide), fun _ => by rw [row_set hr]; rfl, fun h => by rw [show Reg.lay Ls 6 7 = Ls 7 from lay_ne (by decide), h7] at h; exact absurd h (by decide), fun _ => by rw [set_other (Ne.symm hne)]; exact hC.r2o h7, fun _ => lay_eq, fun _ => by rw [show Reg.lay Ls 6 3 = Ls 3 from lay_ne (by decide)]; exact h3, fun h => by rw [show Reg.lay Ls 6 6 = true from lay_eq] at h; exact absurd h (by decide)⟩ trivial trivial
  ·
   have hL' : Ls 7 = false := hL
   have h6 : Ls 6 = true := Reg.aw_get ha { on := 6, ground := Ground.chain } (by simp) rfl
   have hr := hC.r2o hL'
   have c0 := row_cell hr 0
   have f0 := row_free hr 0
   simp only [List.getElem?_toArray, List.getElem?_cons_zero] at c0
   simp only [c0, f0]
   go_simp
   try simp only [Reg.gives_value, Reg.gives_skip]
   refine hK _ _ ⟨hC.keep.setCell (fun _ => by simp) _, fun h => by rw [show Reg.lay Ls 7 6 = Ls 6 from lay_ne (by decide), h6] at h; exact absurd h (by decide), fun _ => by rw [set_other hne]; exact hC.r1 h6, fun _ => by rw [row_set hr]; rfl, fun h => by rw [show Reg.lay Ls 7 7 = true from lay_eq] at h; exact absurd h (by decide), fun _ => by rw [show Reg.lay Ls 7 6 = Ls 6 from lay_ne (by decide)]; exact h6, fun _ => by rw [show Reg.lay Ls 7 3 = Ls 3 from lay_ne (by decide)]; exact hC.up3 h6, fun h => by rw [show Reg.lay Ls 7 6 = Ls 6 from lay_ne (by decide), h6] at h; exact absurd h (by decide)⟩ trivial trivial
 case hend =>
  intro vs w' hC hall
  have hdp : DP X1 X2 pl z w w' := ⟨hC.keep, hC.r1 rfl, hC.r2 rfl⟩
  clear hC hall
  go_wp2_with fail
  cases c₀
  simp_all [bodyPostS, results, Tryz.results85]
end
end Go.Proofs.YtbikifibfaaggaaGreatDoor
