import Derived.Test.YtbikifibfaaggaaGreatDoorVMT
import Derived.Test.YtbikifibfaaggaaGreatDoorVMJ
namespace Go.Proofs.YtbikifibfaaggaaGreatDoor
set_option maxHeartbeats 4000000
set_option maxRecDepth 100000
open Go.RowKit Go.Shelf
open Lx (Tok Tx)
open Px (Ex Cn Sm)
open Reg (Is Fact)
attribute [local go_sem] Reg.wantedV Reg.gives_value Reg.gives_skip Reg.gives_enter
theorem ArgsAt.low {w : World} {lo hi : Nat} (h : lo ≤ hi) {l : List Ex} {v : Value} (ha : ArgsAt w hi l v) : ArgsAt w lo l v := by
 obtain ⟨vs, h1, h2⟩ := ha
 refine ⟨vs, own_low h1 (by omega), ?_⟩
 clear h1
 induction l generalizing vs with
 | nil => exact h2
 | cons e l ih =>
  obtain ⟨v, r, h3, h4, h5⟩ := h2
  exact ⟨v, r, h3, h4.low h, ih r h5⟩
mutual
theorem SmAt.low {w : World} {lo hi : Nat} {B : Nat → Prop} (h : lo ≤ hi) : ∀ (s : Sm) (vs : List Value), SmAt w hi B s vs → SmAt w lo B s vs
 | .mk kd x y e f c args th el a, vs, hs => by
  obtain ⟨ve, vf, vc, va, vt, vl, h1, h2, h3, h4, h5, ⟨c1, h6, h7, h8⟩, ⟨c2, h9, h10, h11⟩⟩ := hs
  refine ⟨ve, vf, vc, va, vt, vl, h1, ?_, ?_, ?_, h5.low h, ⟨c1, own_low h6 (by omega), h7, SmC.low h th c1 h8⟩, ⟨c2, own_low h9 (by omega), h10, SmC.low h el c2 h11⟩⟩
  ·
   cases e with
   | none => exact h2
   | some e => exact ExAt.low h h2
  ·
   cases f with
   | none => exact h3
   | some e => exact ExAt.low h h3
  ·
   cases c with
   | none => exact h4
   | some e => exact CnAt.low h h4
theorem SmC.low {w : World} {lo hi : Nat} {B : Nat → Prop} (h : lo ≤ hi) : ∀ (l : List Sm) (cs : List Value), SmC w hi B l cs → SmC w lo B l cs
 | [], _, h => h
 | s :: l, _, ⟨vs, ds, h1, h2, h3⟩ => ⟨vs, ds, h1, SmAt.low h s vs h2, SmC.low h l ds h3⟩
end
def SmSh (vs : List Value) : Prop := ∃ (kd : Int) (x y : ByteArray) (qe qf qc : Option Addr) (Aa : Option Addr) (na ca : Nat) (At : Option Addr) (nt ct : Nat) (Al : Option Addr) (nl cl : Nat) (a : Int),
 vs = [.int .i64 kd, .string x, .string y, .pointer qe, .pointer qf, .pointer qc, .slice Aa na ca, .slice At nt ct, .slice Al nl cl, .int .i64 a]
abbrev sRow (kd : Int) (x y : ByteArray) (qe qf qc : Option Addr) (va vt vl : Value) (a : Int) : List Value := [.int .i64 kd, .string x, .string y, .pointer qe, .pointer qf, .pointer qc, va, vt, vl, .int .i64 a]
abbrev vval (f : Nat) : List Tok → Nat → Nat → Px.R Sm := fun ts o _ => Px.value f o ts
def QV (w : World) (b n X : Nat) (x : Tx) (a : Nat) (p : Option Sm × St) (e : Ending) (w' : World) : Prop :=
 e = .returned (.tuple #[]) ∧ Keeps [b, X] w w' ∧ SA w' b n p.2 ∧ ∃ vs, SmSh vs ∧ w'.heap[X]? = some (.cells vs.toArray 60 (0, 0)) ∧ ∀ s, p.1 = some s → SmAt w' X (fun _ => False) ((s.withX x).withAt a) vs
theorem qnoArgs {w : World} {X : Nat} : ArgsAt w X [] (.slice .none 0 0) := ⟨[], ⟨rfl, .inl ⟨rfl, rfl⟩⟩, rfl⟩
theorem qnoSs {w : World} {X : Nat} {B : Nat → Prop} : ∃ cs, w.ownsRow (X + 1) 60 10 (.slice .none 0 0) ([] : List Sm).length cs ∧ (∀ g, (Value.slice .none 0 0).ownBlock = some g → B g) ∧ SmC w X B [] cs := ⟨[], ⟨rfl, .inl ⟨rfl, rfl⟩⟩, fun g hg => (by cases hg), rfl⟩
theorem vl_null {n f o k : Nat} {ts : List Tok} (h : Px.sees ts [110, 117, 108, 108] = true) : (St.live ts o k).lift n kI (vval f) = (some (.mk 3 [] [] none none none [] [] [] 0), .live ts.tail o k) := by
 have hu : Px.value f o ts = .ok (.mk 3 [] [] none none none [] [] [] 0) ts.tail := by unfold Px.value; rw [if_pos h]
 simp only [St.lift, vval, hu, kI]
theorem name_lift {n o k K : Nat} {ts : List Tok} {F : Tx → Sm} {G : List Tok → Nat → Nat → Px.R Sm} (hG : G ts o k = (Px.nameR ts.tail).bind fun y r => .ok (F y) r) :
 (St.live ts o k).lift n kI G = (((St.live ts.tail o k).name n).gate (some (F (Px.txt ts.tail 0))), (St.live ts.tail o k).name n) := by
 simp only [St.lift, hG, Px.nameR]
 by_cases hn : Px.isName ts.tail = true
 ·
  rw [if_pos hn]
  have hnm : (St.live ts.tail o k).name n = .live ts.tail.tail o k := by unfold St.name; rw [if_pos (show (St.live ts.tail o k).named = true from hn)]; rfl
  rw [hnm]; rfl
 ·
  rw [if_neg hn]
  have hnm : (St.live ts.tail o k).name n = .dead 51 (Px.place n ts.tail) o := by unfold St.name; rw [if_neg (show ¬ (St.live ts.tail o k).named = true from hn)]; rfl
  rw [hnm]; rfl
theorem vl_addr {n f o k : Nat} {ts : List Tok} (h0 : Px.sees ts [110, 117, 108, 108] = false) (h : Px.sees ts [38] = true) : (St.live ts o k).lift n kI (vval f) = (((St.live ts.tail o k).name n).gate (some (.mk 1 [] (Px.txt ts.tail 0) none none none [] [] [] 0)), (St.live ts.tail o k).name n) :=
 name_lift (K := 0) (F := fun y => .mk 1 [] y none none none [] [] [] 0) (by show Px.value f o ts = _; unfold Px.value; rw [if_neg (by simp [h0]), if_pos h])
theorem vl_load {n f o k : Nat} {ts : List Tok} (h0 : Px.sees ts [110, 117, 108, 108] = false) (h1 : Px.sees ts [38] = false) (h : Px.sees ts [42] = true) : (St.live ts o k).lift n kI (vval f) = (((St.live ts.tail o k).name n).gate (some (.mk 4 [] (Px.txt ts.tail 0) none none none [] [] [] 0)), (St.live ts.tail o k).name n) :=
 name_lift (K := 0) (F := fun y => .mk 4 [] y none none none [] [] [] 0) (by show Px.value f o ts = _; unfold Px.value; rw [if_neg (by simp [h0]), if_neg (by simp [h1]), if_pos h])
structure VKind (σ : St) (a b c : Bool) : Prop where
 null : σ.sees [110, 117, 108, 108] = a
 amp : σ.sees [38] = b
 star : σ.sees [42] = c
theorem vl_index {n f o k : Nat} {t0 t1 : Tok} {r : List Tok} (hv : VKind (.live (t0 :: t1 :: r) o k) false false false) (hn : Px.isName (t0 :: t1 :: r) = true) (h1 : t1.text = [91]) :
 (St.live (t0 :: t1 :: r) o k).lift n kI (vval f) = ((((St.live r o k).lift n kI (esum f)).2.want n [93]).gate (((St.live r o k).lift n kI (esum f)).1.map fun e => .mk 6 [] t0.text (some e) none none [] [] [] 0), ((St.live r o k).lift n kI (esum f)).2.want n [93]) := by
 obtain ⟨a1, a2, a3⟩ := hv
 have a1 : Px.sees (t0 :: t1 :: r) [110, 117, 108, 108] = false := a1
 have a2 : Px.sees (t0 :: t1 :: r) [38] = false := a2
 have a3 : Px.sees (t0 :: t1 :: r) [42] = false := a3
 have hx : Px.txt (t0 :: t1 :: r) 1 = [91] := h1
 have hu : Px.value f o (t0 :: t1 :: r) = (Px.sum f o r).bind fun e r => Px.want [93] r fun r => .ok (.mk 6 [] t0.text (some e) none none [] [] [] 0) r := by
  unfold Px.value
  rw [if_neg (by simp [a1]), if_neg (by simp [a2]), if_neg (by simp [a3]), if_pos (by rw [hn, hx]; rfl)]
  unfold Px.nameR Px.index
  rw [if_pos hn]
  simp only [Px.bind_ok, Px.want, Px.passR, List.tail_cons, Px.sees, Px.txt, List.getElem?_cons_zero, h1, beq_self_eq_true, if_true]
  cases Px.sum f o r with
  | ok e r2 =>
   have key : ∀ z : Px.R Unit, ((z.bind fun _ r => Px.R.ok e r).bind fun e r => Px.R.ok (Sm.mk 6 [] t0.text (some e) none none [] [] [] 0) r) = z.bind fun _ r => Px.R.ok (Sm.mk 6 [] t0.text (some e) none none [] [] [] 0) r := fun z => by cases z <;> rfl
   exact key _
  | err z r2 => rfl
 simp only [St.lift, vval, esum, hu]
 cases hs : Px.sum f o r with
 | err z r2 => simp [St.want, St.sees, St.gate, St.fail, St.ok, Px.R.bind]
 | ok a r2 =>
  by_cases hc : Px.sees r2 [93] = true
  · simp [St.want, St.sees, St.gate, St.ok, St.adv, hc, kI, Px.R.bind, Px.want, Px.passR]
  · simp [St.want, St.sees, St.gate, St.ok, St.fail, hc, Px.R.bind, Px.want, Px.passR]
theorem vl_call {n f o k : Nat} {t0 t1 : Tok} {r : List Tok} (hv : VKind (.live (t0 :: t1 :: r) o k) false false false) (hn : Px.isName (t0 :: t1 :: r) = true) (h1 : t1.text = [40]) :
 (St.live (t0 :: t1 :: r) o k).lift n kI (vval f) = ((((St.live r o k).lift n kI (aargs f)).1.map fun l => .mk 8 [] t0.text none none none l [] [] 0), ((St.live r o k).lift n kI (aargs f)).2) := by
 obtain ⟨a1, a2, a3⟩ := hv
 have a1 : Px.sees (t0 :: t1 :: r) [110, 117, 108, 108] = false := a1
 have a2 : Px.sees (t0 :: t1 :: r) [38] = false := a2
 have a3 : Px.sees (t0 :: t1 :: r) [42] = false := a3
 have hx : Px.txt (t0 :: t1 :: r) 1 = [40] := h1
 have hu : Px.value f o (t0 :: t1 :: r) = (Px.argsL f o f [] r).bind fun l r => .ok (.mk 8 [] t0.text none none none l [] [] 0) r := by
  unfold Px.value
  rw [if_neg (by simp [a1]), if_neg (by simp [a2]), if_neg (by simp [a3]), if_neg (by rw [hn, hx]; simp), if_pos (by rw [hn, hx]; rfl)]
  unfold Px.call Px.nameR Px.args
  rw [if_pos hn]
  simp only [Px.bind_ok, Px.want, Px.passR, List.tail_cons, Px.sees, Px.txt, List.getElem?_cons_zero, h1, beq_self_eq_true, if_true]
 simp only [St.lift, vval, aargs, hu]
 cases hs : Px.argsL f o f [] r <;> rfl
theorem vl_sum {n f : Nat} {σ : St} (hv : VKind σ false false false) (h : ∀ ts o k, σ = .live ts o k → ¬ (Px.isName ts = true ∧ (Px.txt ts 1 = [91] ∨ Px.txt ts 1 = [40]))) :
 σ.lift n kI (vval f) = ((σ.lift n kI (esum f)).1.map fun e => .mk 0 [] [] (some e) none none [] [] [] 0, (σ.lift n kI (esum f)).2) := by
 cases σ with
 | dead z p o => rfl
 | live ts o k =>
  obtain ⟨a1, a2, a3⟩ := hv
  have a1 : Px.sees ts [110, 117, 108, 108] = false := a1
  have a2 : Px.sees ts [38] = false := a2
  have a3 : Px.sees ts [42] = false := a3
  have h := h ts o k rfl
  have hu : Px.value f o ts = (Px.sum f o ts).bind fun e r => .ok (.mk 0 [] [] (some e) none none [] [] [] 0) r := by
   unfold Px.value
   rw [if_neg (by simp [a1]), if_neg (by simp [a2]), if_neg (by simp [a3]), if_neg (fun hc => h ⟨by simp at hc; exact hc.1, .inl (by simp at hc; exact hc.2)⟩), if_neg (fun hc => h ⟨by simp at hc; exact hc.1, .inr (by simp at hc; exact hc.2)⟩)]
  simp only [St.lift, vval, esum, hu]
  cases hs : Px.sum f o ts <;> rfl
theorem gate_ok {α : Type} {σ : St} {x : Option α} {a : α} (h : σ.gate x = some a) : σ.ok = true := by
 unfold St.gate at h
 split at h
 · assumption
 · cases h
theorem name_ok {n : Nat} {ts : List Tok} {o k : Nat} (h : ((St.live ts o k).name n).ok = true) : Px.isName ts = true := by
 unfold St.name at h
 split at h
 · assumption
 · cases h
theorem SA.two2 {w : World} {b n : Nat} {t0 t1 : Tok} {r : List Tok} {o k : Nat} (h : SA w b n (.live (t0 :: t1 :: r) o k)) : ∃ g off L cap i, w.cell? ⟨b, 0, none⟩ = some (.slice (some ⟨g, off, none⟩) L cap) ∧ w.cell? ⟨b, 1, none⟩ = some (.int .i64 ((i : Nat) : Int)) ∧ i + 1 < L ∧ L ≤ 5000 ∧ g < b ∧
 w.cell? ⟨g, off + (i + 1) * 3 + 1, none⟩ = some (.string (strO t1.text)) := by
 obtain ⟨A, cap, g, all, i, h1, h2, h3, h4, h5, h6, h7, h8⟩ := h
 have hl := congrArg List.length h3
 simp at hl
 have hget : all[i + 1]? = some t1 := by
  have := congrArg (fun l => l[1]?) h3
  simpa using this
 obtain ⟨hlt, hg⟩ := List.getElem?_eq_some_iff.1 hget
 rcases h2 with h2 | ⟨off, rfl, hc⟩
 · subst h2; simp at hl
 ·
  have c0 := row_cell h1 0
  have c1 := row_cell h1 1
  simp only [List.getElem?_toArray, List.getElem?_cons_zero, List.getElem?_cons_succ] at c0 c1
  have q1 := (hc (i + 1) hlt).2.1
  rw [hg] at q1
  exact ⟨g, off, all.length, cap, i, c0, c1, by omega, h8.len, h5, q1⟩
theorem qval_null (f : Nat) (w : World) (b n X a : Nat) (x : Tx) (ts : List Tok) (o k : Nat) (hs : SA w b n (.live ts o k)) (hX : b < X ∧ X < w.heap.size) (hb : w.heap[X]? = some (.cells (sRow 0 (strO x) ⟨#[]⟩ none none none (.slice none 0 0) (.slice none 0 0) (.slice none 0 0) (a : Int)).toArray 60 (0, 0))) (hv : VKind (.live ts o k) true false false) :
 Calls Tryz.prog 119 #[pp b, .pointer (some ⟨X, 0, none⟩)] w (QV w b n X x a (some (.mk 3 [] [] none none none [] [] [] 0), .live ts.tail o k)) := by
 have HX := Hd hX
 have HNM := Hd (fun w' (h : SA w' b n (.live ts o k)) => qnamed_any w' b n _ h)
 have HT1 := Hd (fun w' (h : SA w' b n (.live ts o k)) => qtake_any w' b n _ h [110, 117, 108, 108])
 have HT2 := Hd (fun w' (h : SA w' b n (.live ts o k)) => qtake_any w' b n _ h [38])
 have HT3 := Hd (fun w' (h : SA w' b n (.live ts o k)) => qtake_any w' b n _ h [42])
 obtain ⟨v1, v2, v3⟩ := hv
 unfold St.take at HT1 HT2 HT3
 rw [v1] at HT1
 rw [v2] at HT2
 rw [v3] at HT3
 simp only [if_true, Bool.false_eq_true, if_false] at HT1 HT2 HT3
 obtain ⟨sx, hsx⟩ : ∃ s, s = strO x := ⟨_, rfl⟩
 rw [← hsx] at hb
 have HSX := Hd hsx
 have HB := Hd hb
 have HS := Hd hs
 have HK := Hd (Keeps.refl [b, X] w)
 clear hX v1 v2 v3 hsx hb hs
 go_enter Tryz.func119, Tryz.ntmps119
 go_wp2_with fail
 refine (cW (HT1.out _ HS.out) HK HB) fun v1 HK HB HS => ?_
 obtain ⟨cc0, ff0⟩ := rowi HB.out 0
 go_wp2_with fail
 have hk : Keeps [X] v1 (v1.setCell ⟨X, 0, none⟩ (.int .i64 3)) := ((Keeps.refl [X] _).set1 _ _)
 have HB := Hd (show (v1.setCell ⟨X, 0, none⟩ (.int .i64 3)).heap[X]? = some (.cells (sRow 3 sx ⟨#[]⟩ none none none (.slice none 0 0) (.slice none 0 0) (.slice none 0 0) (a : Int)).toArray 60 (0, 0)) from by
  have h0 := row_set HB.out 0 (.int .i64 3)
  exact h0)
 have HK := zU HK hk
 have HS := zI HS hk
 clear hk cc0 ff0
 go_end0
 exact ⟨rfl, HK.out, HS.out, _, ⟨_, _, _, _, _, _, _, _, _, _, _, _, _, _, _, _, rfl⟩, HB.out, fun s h => by
  obtain rfl := Option.some.inj h
  rw [HSX.out]
  exact ⟨_, _, _, _, _, _, rfl, rfl, rfl, rfl, qnoArgs, qnoSs, qnoSs⟩⟩
theorem qval_addr (f : Nat) (w : World) (b n X a : Nat) (x : Tx) (ts : List Tok) (o k : Nat) (hs : SA w b n (.live ts o k)) (hX : b < X ∧ X < w.heap.size) (hb : w.heap[X]? = some (.cells (sRow 0 (strO x) ⟨#[]⟩ none none none (.slice none 0 0) (.slice none 0 0) (.slice none 0 0) (a : Int)).toArray 60 (0, 0))) (hv : VKind (.live ts o k) false true false) :
 Calls Tryz.prog 119 #[pp b, .pointer (some ⟨X, 0, none⟩)] w (QV w b n X x a (((St.live ts.tail o k).name n).gate (some (.mk 1 [] (Px.txt ts.tail 0) none none none [] [] [] 0)), (St.live ts.tail o k).name n)) := by
 have HX := Hd hX
 have HNM := Hd (fun w' (h : SA w' b n (.live ts o k)) => qnamed_any w' b n _ h)
 have HT1 := Hd (fun w' (h : SA w' b n (.live ts o k)) => qtake_any w' b n _ h [110, 117, 108, 108])
 have HT2 := Hd (fun w' (h : SA w' b n (.live ts o k)) => qtake_any w' b n _ h [38])
 have HT3 := Hd (fun w' (h : SA w' b n (.live ts o k)) => qtake_any w' b n _ h [42])
 obtain ⟨v1, v2, v3⟩ := hv
 unfold St.take at HT1 HT2 HT3
 rw [v1] at HT1
 rw [v2] at HT2
 rw [v3] at HT3
 simp only [if_true, Bool.false_eq_true, if_false] at HT1 HT2 HT3
 obtain ⟨sx, hsx⟩ : ∃ s, s = strO x := ⟨_, rfl⟩
 rw [← hsx] at hb
 have HSX := Hd hsx
 have HB := Hd hb
 have HS := Hd hs
 have HK := Hd (Keeps.refl [b, X] w)
 have HNA := Hd (fun w' (h : SA w' b n (.live ts.tail o k)) => qname_any w' b n _ h)
 clear hX v1 v2 v3 hsx hb hs
 go_enter Tryz.func119, Tryz.ntmps119
 go_wp2_with fail
 refine (cW (HT1.out _ HS.out) HK HB) fun v1 HK HB HS => ?_
 go_wp2_with fail
 refine (cW (HT2.out _ HS.out) HK HB) fun v2 HK HB HS => ?_
 go_wp2_with fail
 refine (HNA.out _ HS.out).mono ?_
 rintro e v3 ⟨⟨s, rfl, hnm⟩, hs, hk⟩
 have HK := zU HK hk
 have HB := zB HB hk
 have HS := Hd hs
 have HN := Hd hnm
 clear hs hk hnm
 obtain ⟨sy, hsy⟩ : ∃ y, y = strO s := ⟨_, rfl⟩
 have HSY := Hd hsy
 rw [← hsy]
 clear hsy
 obtain ⟨cc0, ff0⟩ := rowi HB.out 0
 obtain ⟨cc2, ff2⟩ := rowi HB.out 2
 go_wp2_with fail
 have hk : Keeps [X] v3 ((v3.setCell ⟨X, 0, none⟩ (.int .i64 1)).setCell ⟨X, 2, none⟩ (.string sy)) := (((Keeps.refl [X] _).set1 _ _).set1 _ _)
 have HB := Hd (show ((v3.setCell ⟨X, 0, none⟩ (.int .i64 1)).setCell ⟨X, 2, none⟩ (.string sy)).heap[X]? = some (.cells (sRow 1 sx sy none none none (.slice none 0 0) (.slice none 0 0) (.slice none 0 0) (a : Int)).toArray 60 (0, 0)) from by
  have h0 := row_set HB.out 0 (.int .i64 1)
  have h1 := row_set h0 2 (.string sy)
  exact h1)
 have HK := zU HK hk
 have HS := zI HS hk
 clear hk cc0 ff0 cc2 ff2
 go_end0
 exact ⟨rfl, HK.out, HS.out, _, ⟨_, _, _, _, _, _, _, _, _, _, _, _, _, _, _, _, rfl⟩, HB.out, fun s0 h => by
  have hg := gate_ok h
  have hnn : Px.isName ts.tail = true := name_ok hg
  obtain rfl := Option.some.inj (gate_some h)
  have := HN.out _ _ _ rfl hnn
  rw [HSX.out, HSY.out, this]
  exact ⟨_, _, _, _, _, _, rfl, rfl, rfl, rfl, qnoArgs, qnoSs, qnoSs⟩⟩
theorem qval_load (f : Nat) (w : World) (b n X a : Nat) (x : Tx) (ts : List Tok) (o k : Nat) (hs : SA w b n (.live ts o k)) (hX : b < X ∧ X < w.heap.size) (hb : w.heap[X]? = some (.cells (sRow 0 (strO x) ⟨#[]⟩ none none none (.slice none 0 0) (.slice none 0 0) (.slice none 0 0) (a : Int)).toArray 60 (0, 0))) (hv : VKind (.live ts o k) false false true) :
 Calls Tryz.prog 119 #[pp b, .pointer (some ⟨X, 0, none⟩)] w (QV w b n X x a (((St.live ts.tail o k).name n).gate (some (.mk 4 [] (Px.txt ts.tail 0) none none none [] [] [] 0)), (St.live ts.tail o k).name n)) := by
 have HX := Hd hX
 have HNM := Hd (fun w' (h : SA w' b n (.live ts o k)) => qnamed_any w' b n _ h)
 have HT1 := Hd (fun w' (h : SA w' b n (.live ts o k)) => qtake_any w' b n _ h [110, 117, 108, 108])
 have HT2 := Hd (fun w' (h : SA w' b n (.live ts o k)) => qtake_any w' b n _ h [38])
 have HT3 := Hd (fun w' (h : SA w' b n (.live ts o k)) => qtake_any w' b n _ h [42])
 obtain ⟨v1, v2, v3⟩ := hv
 unfold St.take at HT1 HT2 HT3
 rw [v1] at HT1
 rw [v2] at HT2
 rw [v3] at HT3
 simp only [if_true, Bool.false_eq_true, if_false] at HT1 HT2 HT3
 obtain ⟨sx, hsx⟩ : ∃ s, s = strO x := ⟨_, rfl⟩
 rw [← hsx] at hb
 have HSX := Hd hsx
 have HB := Hd hb
 have HS := Hd hs
 have HK := Hd (Keeps.refl [b, X] w)
 have HNA := Hd (fun w' (h : SA w' b n (.live ts.tail o k)) => qname_any w' b n _ h)
 clear hX v1 v2 v3 hsx hb hs
 go_enter Tryz.func119, Tryz.ntmps119
 go_wp2_with fail
 refine (cW (HT1.out _ HS.out) HK HB) fun v1 HK HB HS => ?_
 go_wp2_with fail
 refine (cW (HT2.out _ HS.out) HK HB) fun v2 HK HB HS => ?_
 go_wp2_with fail
 refine (cW (HT3.out _ HS.out) HK HB) fun v3 HK HB HS => ?_
 go_wp2_with fail
 refine (HNA.out _ HS.out).mono ?_
 rintro e v4 ⟨⟨s, rfl, hnm⟩, hs, hk⟩
 have HK := zU HK hk
 have HB := zB HB hk
 have HS := Hd hs
 have HN := Hd hnm
 clear hs hk hnm
 obtain ⟨sy, hsy⟩ : ∃ y, y = strO s := ⟨_, rfl⟩
 have HSY := Hd hsy
 rw [← hsy]
 clear hsy
 obtain ⟨cc0, ff0⟩ := rowi HB.out 0
 obtain ⟨cc2, ff2⟩ := rowi HB.out 2
 go_wp2_with fail
 have hk : Keeps [X] v4 ((v4.setCell ⟨X, 0, none⟩ (.int .i64 4)).setCell ⟨X, 2, none⟩ (.string sy)) := (((Keeps.refl [X] _).set1 _ _).set1 _ _)
 have HB := Hd (show ((v4.setCell ⟨X, 0, none⟩ (.int .i64 4)).setCell ⟨X, 2, none⟩ (.string sy)).heap[X]? = some (.cells (sRow 4 sx sy none none none (.slice none 0 0) (.slice none 0 0) (.slice none 0 0) (a : Int)).toArray 60 (0, 0)) from by
  have h0 := row_set HB.out 0 (.int .i64 4)
  have h1 := row_set h0 2 (.string sy)
  exact h1)
 have HK := zU HK hk
 have HS := zI HS hk
 clear hk cc0 ff0 cc2 ff2
 go_end0
 exact ⟨rfl, HK.out, HS.out, _, ⟨_, _, _, _, _, _, _, _, _, _, _, _, _, _, _, _, rfl⟩, HB.out, fun s0 h => by
  have hg := gate_ok h
  have hnn : Px.isName ts.tail = true := name_ok hg
  obtain rfl := Option.some.inj (gate_some h)
  have := HN.out _ _ _ rfl hnn
  rw [HSX.out, HSY.out, this]
  exact ⟨_, _, _, _, _, _, rfl, rfl, rfl, rfl, qnoArgs, qnoSs, qnoSs⟩⟩
theorem qval_index (f : Nat) (w : World) (b n X a : Nat) (x : Tx) (t0 t1 : Tok) (r : List Tok) (o k : Nat) (lo : X = X) (hs : SA w b n (.live (t0 :: t1 :: r) o k)) (hX : b < X ∧ X < w.heap.size) (hb : w.heap[X]? = some (.cells (sRow 0 (strO x) ⟨#[]⟩ none none none (.slice none 0 0) (.slice none 0 0) (.slice none 0 0) (a : Int)).toArray 60 (0, 0))) (hv : VKind (.live (t0 :: t1 :: r) o k) false false false) (hn : Px.isName (t0 :: t1 :: r) = true) (h1 : t1.text = [91]) (hf : 4 * r.length + 4 ≤ f) (ho2 : o ≤ 1000):
 Calls Tryz.prog 119 #[pp b, .pointer (some ⟨X, 0, none⟩)] w (QV w b n X x a ((((St.live r o k).lift n kI (esum f)).2.want n [93]).gate (((St.live r o k).lift n kI (esum f)).1.map fun e => .mk 6 [] t0.text (some e) none none [] [] [] 0), ((St.live r o k).lift n kI (esum f)).2.want n [93])) := by
 have HX := Hd hX
 have HNM := Hd (fun w' (h : SA w' b n (.live (t0 :: t1 :: r) o k)) => qnamed_any w' b n _ h)
 have HT1 := Hd (fun w' (h : SA w' b n (.live (t0 :: t1 :: r) o k)) => qtake_any w' b n _ h [110, 117, 108, 108])
 have HT2 := Hd (fun w' (h : SA w' b n (.live (t0 :: t1 :: r) o k)) => qtake_any w' b n _ h [38])
 have HT3 := Hd (fun w' (h : SA w' b n (.live (t0 :: t1 :: r) o k)) => qtake_any w' b n _ h [42])
 obtain ⟨v1, v2, v3⟩ := hv
 unfold St.take at HT1 HT2 HT3
 rw [v1] at HT1
 rw [v2] at HT2
 rw [v3] at HT3
 simp only [if_true, Bool.false_eq_true, if_false] at HT1 HT2 HT3
 obtain ⟨sx, hsx⟩ : ∃ s, s = strO x := ⟨_, rfl⟩
 rw [← hsx] at hb
 have HSX := Hd hsx
 have HB := Hd hb
 have HS := Hd hs
 have HK := Hd (Keeps.refl [b, X] w)
 have hnm : (St.live (t0 :: t1 :: r) o k).named = true := hn
 rw [hnm] at HNM
 have HNA := Hd (fun w' (h : SA w' b n (.live (t0 :: t1 :: r) o k)) => qname_any w' b n _ h)
 have hna : (St.live (t0 :: t1 :: r) o k).name n = .live (t1 :: r) o k := by unfold St.name; rw [if_pos hnm]; rfl
 rw [hna] at HNA
 have HN := Hd hn
 have HT := Hd h1
 have HQ := Hd (fun w' (h : SA w' b n (.live r o k)) (hlo : X < w'.heap.size) => (qe f).sum w' b n (.live r o k) X h ⟨ho2, by omega⟩ (by omega) hlo)
 obtain ⟨P, hP⟩ : ∃ P, P = (St.live r o k).lift n kI (esum f) := ⟨_, rfl⟩
 rw [← hP] at HQ ⊢
 clear hP
 have HW := Hd (fun w' (h : SA w' b n P.2) => qwant_any w' b n P.2 h [93])
 clear hX v1 v2 v3 hsx hb hs hn h1 hnm hna
 go_enter Tryz.func119, Tryz.ntmps119
 go_wp2_with fail
 refine (cW (HT1.out _ HS.out) HK HB) fun v1 HK HB HS => ?_
 go_wp2_with fail
 refine (cW (HT2.out _ HS.out) HK HB) fun v2 HK HB HS => ?_
 go_wp2_with fail
 refine (cW (HT3.out _ HS.out) HK HB) fun v3 HK HB HS => ?_
 obtain ⟨g, off, L, cap, i, c0, c1, hi, hL, hgb, d1⟩ := HS.out.two2
 obtain ⟨j1, hj1⟩ : ∃ j, j = i + 1 := ⟨_, rfl⟩
 rw [← hj1] at d1
 obtain ⟨x1, hx1⟩ : ∃ x, x = strO t1.text := ⟨_, rfl⟩
 have hx1' := strO_toList t1.text
 rw [← hx1] at d1 hx1'
 have e1 := d1
 have hs1 : IntKind.i64.wrap ((i : Int) + 1) = (j1 : Int) := by rw [IntWalk.i64_in _ (by omega)]; omega
 have hl1 : (j1 : Int) < (L : Int) := by omega
 have hm1 : decide ((j1 : Int) < (L : Int)) = true := by simp; omega
 have hn1 : decide (j1 < L) = true := by simp; omega
 have hp1 : (0 : Int) ≤ (j1 : Int) := by omega
 have y1 : (x1.toList == [91]) = true := by rw [hx1', HT.out]; rfl
 have hne : g ≠ b := by omega
 clear hi hgb d1 hx1 hx1' hj1
 go_wp2_with fail
 refine Reg.wp_region_state (A := ?Ar7Yi) (fun _ w' => Keeps [] v3 w') (fun _ _ => True)
  (Is (.pointer (some ⟨b, 0, none⟩)) :: Is (.bool true) :: Is (.bool true) :: Is (.pointer (some ⟨b, 0, none⟩)) :: Is (.pointer (some ⟨b, 0, none⟩)) :: Is (.pointer (some ⟨b, 1, none⟩)) :: Is (.int .i64 (i : Int)) :: Is (.int .i64 (j1 : Int)) :: Is (.pointer (some ⟨b, 0, none⟩)) :: Is (.pointer (some ⟨b, 0, none⟩)) :: Is (.pointer (some ⟨b, 0, none⟩)) :: Is (.slice (some ⟨g, off, none⟩) L cap) :: Is (.int .i64 (L : Int)) :: Is (.bool true) :: Is (.bool true) :: Is (.bool true) :: Is (.pointer (some ⟨b, 0, none⟩)) :: Is (.pointer (some ⟨b, 0, none⟩)) :: Is (.pointer (some ⟨b, 0, none⟩)) :: Is (.slice (some ⟨g, off, none⟩) L cap) :: Is (.pointer (some ⟨b, 0, none⟩)) :: Is (.pointer (some ⟨b, 0, none⟩)) :: Is (.pointer (some ⟨b, 1, none⟩)) :: Is (.int .i64 (i : Int)) :: Is (.int .i64 (j1 : Int)) :: Is (.pointer (some ⟨g, off + j1 * 3, none⟩)) :: Is (.pointer (some ⟨g, off + j1 * 3 + 1, none⟩)) :: Is (.string x1) :: Is (.bool true) :: Is (.bool true) :: Is (.bool true) :: [])
  (by kernel_rfl) (by kernel_rfl) rfl ?hr7YiA ?hr7YiC ?hr7Yio ?hr7Yilast ?hr7Yiend
 case hr7YiA => intro vs; simp only [Reg.fill, if_true, Nat.zero_add, Nat.reduceAdd, Act.put, List.setIfInBounds_toArray, List.set_cons_succ, List.set_cons_zero]; exact rfl
 case hr7YiC => exact (Keeps.refl _ _).drew
 case hr7Yilast => repeat (first | exact trivial | refine ⟨fun _ _ _ h _ => h, ?_⟩)
 case hr7Yio =>
  repeat' apply And.intro
  all_goals
   first
    | exact trivial
    | (
     intro Ls vs w' hC hLs hd K hK
     try simp only [Reg.Deps, Reg.at_, List.getD_cons_zero, List.getD_cons_succ, Region.binds, true_implies, Is, and_true] at hd
     have cx0 := hC.cell_some c0 (by simp)
     have cx1 := hC.cell_some c1 (by simp)
     have cx2 := hC.cell_some e1 (by simp)
     go_simp
     first
      | exact hK _ _ hC trivial rfl
      | skip)
  ·
   refine (HNM.out _ (HS.out.keep hC)).mono ?_
   rintro e w9 ⟨rfl, hk⟩
   exact ⟨_, rfl, hK _ _ (hC.trans hk (fun _ h _ => h)) trivial rfl⟩
 case hr7Yiend =>
  intro vs u1 hk hall
  simp only [Reg.All, Is, and_true, Nat.zero_add, Nat.reduceAdd] at hall
  obtain ⟨-, -, -, -, -, -, -, -, -, -, -, -, -, -, -, -, -, -, -, -, -, -, -, -, -, -, -, -, -, -, eL⟩ := hall
  rw [eL]
  have HS := zS HS hk
  have HK := Hd (HK.out.trans hk (fun _ h _ => by cases h))
  have HB := Hd (block_keep HB.out hk (by simp))
  clear hk eL c0 c1 e1
  go_wp2_with fail
  refine (HNA.out _ HS.out).mono ?_
  rintro e v1 ⟨⟨s, rfl, hnm⟩, hs, hk⟩
  have HK := zU HK hk
  have HB := zB HB hk
  have hn2 := hnm _ _ _ rfl HN.out
  obtain rfl : s = t0.text := hn2
  obtain ⟨sy, hsy⟩ : ∃ y, y = strO t0.text := ⟨_, rfl⟩
  have HSY := Hd hsy
  rw [← hsy]
  have HS := Hd hs
  clear hs hk hnm hsy
  obtain ⟨cc0, ff0⟩ := rowi HB.out 0
  obtain ⟨cc2, ff2⟩ := rowi HB.out 2
  obtain ⟨g2, off2, L2, cap2, i2, d0, d1, hi2, hL2, q0, q1, q2, qf, hq⟩ := HS.out.prev
  have hki : Keeps [X] v1 ((v1.setCell ⟨X, 0, none⟩ (.int .i64 6)).setCell ⟨X, 2, none⟩ (.string sy)) := ((Keeps.refl [X] _).set1 _ _).set1 _ _
  have c1X := hki.cell_some d1 (by have := HX.out; simp; omega)
  have HS1 := Hd (HS.out.keepHi hki (by have := HX.out; simp; omega))
  obtain ⟨cs9, hrow9, -, -, -, -, -, hfz9⟩ := HS1.out.row
  have f1X := hfz9 1
  have hbx : b ≠ X := zX
  have hxb : X ≠ b := zX
  have HS := Hd (HS1.out.setI c1X)
  have hk : Keeps [b, X] v1 (((v1.setCell ⟨X, 0, none⟩ (.int .i64 6)).setCell ⟨X, 2, none⟩ (.string sy)).setCell ⟨b, 1, none⟩ (.int .i64 ((i2 : Int) + 1))) := ((hki.mono (by simp)).setCell (by simp) _)
  have HB := Hd (show (((v1.setCell ⟨X, 0, none⟩ (.int .i64 6)).setCell ⟨X, 2, none⟩ (.string sy)).setCell ⟨b, 1, none⟩ (.int .i64 ((i2 : Int) + 1))).heap[X]? = some (.cells (sRow 6 sx sy none none none (.slice none 0 0) (.slice none 0 0) (.slice none 0 0) (a : Int)).toArray 60 (0, 0)) from by
   have h0 := row_set HB.out 0 (.int .i64 6)
   have h1 := row_set h0 2 (.string sy)
   exact block_keep h1 ((Keeps.refl [b] _).set1 1 _) (by simp; omega))
  have HK := Hd (HK.out.trans hk (fun _ h _ => by simpa using h))
  have HXS := Hd (show X < (((v1.setCell ⟨X, 0, none⟩ (.int .i64 6)).setCell ⟨X, 2, none⟩ (.string sy)).setCell ⟨b, 1, none⟩ (.int .i64 ((i2 : Int) + 1))).heap.size from block_lt HB.out)
  clear hk hki hq q0 q1 q2 d0 hrow9 hfz9
  go_wp2_with fail
  refine (HQ.out _ HS.out HXS.out).mono ?_
  rintro e v2 ⟨v, rfl, hv, hk, hs, ha⟩
  have HK := zU HK hk
  have HB := zB HB hk
  clear c1X f1X qf d1
  obtain ⟨q, rfl⟩ := hv
  have HA := Hd ha
  have HS := Hd hs
  clear hk hs ha
  obtain ⟨cc3, ff3⟩ := rowi HB.out 3
  have hk : Keeps [X] v2 (v2.setCell ⟨X, 3, none⟩ (.pointer q)) := (Keeps.refl [X] _).set1 _ _
  have HB := Hd (show (v2.setCell ⟨X, 3, none⟩ (.pointer q)).heap[X]? = some (.cells (sRow 6 sx sy q none none (.slice none 0 0) (.slice none 0 0) (.slice none 0 0) (a : Int)).toArray 60 (0, 0)) from row_set HB.out 3 _)
  have HK := zU HK hk
  have HS := zI HS hk
  have HA := Hd (fun q0 h => (HA.out q0 h).keep hk (by simp))
  clear hk
  go_wp2_with fail
  refine (HW.out _ HS.out).mono ?_
  rintro e v3 ⟨rfl, hs, hk⟩
  have HK := zU HK hk
  have HB := zB HB hk
  have HA := Hd (fun q0 h => (HA.out q0 h).keep hk (by have := HX.out; simp; omega))
  have HS := Hd hs
  clear hs hk
  go_wp2
  go_end0
  exact ⟨rfl, HK.out, HS.out, _, ⟨_, _, _, _, _, _, _, _, _, _, _, _, _, _, _, _, rfl⟩, HB.out, fun s0 h => by
   obtain ⟨e0, he, rfl⟩ := Option.map_eq_some_iff.1 (gate_some h)
   rw [HSX.out, HSY.out]
   exact ⟨_, _, _, _, _, _, rfl, HA.out e0 he, rfl, rfl, qnoArgs, qnoSs, qnoSs⟩⟩
theorem qval_call (f : Nat) (w : World) (b n X a : Nat) (x : Tx) (t0 t1 : Tok) (r : List Tok) (o k : Nat) (lo : X = X) (hs : SA w b n (.live (t0 :: t1 :: r) o k)) (hX : b < X ∧ X < w.heap.size) (hb : w.heap[X]? = some (.cells (sRow 0 (strO x) ⟨#[]⟩ none none none (.slice none 0 0) (.slice none 0 0) (.slice none 0 0) (a : Int)).toArray 60 (0, 0))) (hv : VKind (.live (t0 :: t1 :: r) o k) false false false) (hn : Px.isName (t0 :: t1 :: r) = true) (h1 : t1.text = [40]) (hf : 4 * r.length + 4 ≤ f) (ho2 : o ≤ 1000):
 Calls Tryz.prog 119 #[pp b, .pointer (some ⟨X, 0, none⟩)] w (QV w b n X x a (((St.live r o k).lift n kI (aargs f)).1.map fun l => .mk 8 [] t0.text none none none l [] [] 0, ((St.live r o k).lift n kI (aargs f)).2)) := by
 have HX := Hd hX
 have HNM := Hd (fun w' (h : SA w' b n (.live (t0 :: t1 :: r) o k)) => qnamed_any w' b n _ h)
 have HT1 := Hd (fun w' (h : SA w' b n (.live (t0 :: t1 :: r) o k)) => qtake_any w' b n _ h [110, 117, 108, 108])
 have HT2 := Hd (fun w' (h : SA w' b n (.live (t0 :: t1 :: r) o k)) => qtake_any w' b n _ h [38])
 have HT3 := Hd (fun w' (h : SA w' b n (.live (t0 :: t1 :: r) o k)) => qtake_any w' b n _ h [42])
 obtain ⟨v1, v2, v3⟩ := hv
 unfold St.take at HT1 HT2 HT3
 rw [v1] at HT1
 rw [v2] at HT2
 rw [v3] at HT3
 simp only [if_true, Bool.false_eq_true, if_false] at HT1 HT2 HT3
 obtain ⟨sx, hsx⟩ : ∃ s, s = strO x := ⟨_, rfl⟩
 rw [← hsx] at hb
 have HSX := Hd hsx
 have HB := Hd hb
 have HS := Hd hs
 have HK := Hd (Keeps.refl [b, X] w)
 have hnm : (St.live (t0 :: t1 :: r) o k).named = true := hn
 rw [hnm] at HNM
 have HNA := Hd (fun w' (h : SA w' b n (.live (t0 :: t1 :: r) o k)) => qname_any w' b n _ h)
 have hna : (St.live (t0 :: t1 :: r) o k).name n = .live (t1 :: r) o k := by unfold St.name; rw [if_pos hnm]; rfl
 rw [hna] at HNA
 have HN := Hd hn
 have HT := Hd h1
 obtain ⟨f, rfl⟩ : ∃ g, f = g + 1 := ⟨f - 1, by omega⟩
 have HQ := Hd (fun w' (h : SA w' b n (.live r o k)) (hlo : X < w'.heap.size) => qargs_any f w' b n (.live r o k) X h ⟨ho2, by omega⟩ (by omega) hlo)
 obtain ⟨P, hP⟩ : ∃ P, P = (St.live r o k).lift n kI (aargs (f + 1)) := ⟨_, rfl⟩
 rw [← hP] at HQ ⊢
 clear hP
 clear hX v1 v2 v3 hsx hb hs hn h1 hnm hna
 go_enter Tryz.func119, Tryz.ntmps119
 go_wp2_with fail
 refine (cW (HT1.out _ HS.out) HK HB) fun v1 HK HB HS => ?_
 go_wp2_with fail
 refine (cW (HT2.out _ HS.out) HK HB) fun v2 HK HB HS => ?_
 go_wp2_with fail
 refine (cW (HT3.out _ HS.out) HK HB) fun v3 HK HB HS => ?_
 obtain ⟨g, off, L, cap, i, c0, c1, hi, hL, hgb, d1⟩ := HS.out.two2
 obtain ⟨j1, hj1⟩ : ∃ j, j = i + 1 := ⟨_, rfl⟩
 rw [← hj1] at d1
 obtain ⟨x1, hx1⟩ : ∃ x, x = strO t1.text := ⟨_, rfl⟩
 have hx1' := strO_toList t1.text
 rw [← hx1] at d1 hx1'
 have e1 := d1
 have hs1 : IntKind.i64.wrap ((i : Int) + 1) = (j1 : Int) := by rw [IntWalk.i64_in _ (by omega)]; omega
 have hl1 : (j1 : Int) < (L : Int) := by omega
 have hm1 : decide ((j1 : Int) < (L : Int)) = true := by simp; omega
 have hn1 : decide (j1 < L) = true := by simp; omega
 have hp1 : (0 : Int) ≤ (j1 : Int) := by omega
 have y1 : (x1.toList == [40]) = true := by rw [hx1', HT.out]; rfl
 have y0 : (x1.toList == [91]) = false := by rw [hx1', HT.out]; rfl
 have hne : g ≠ b := by omega
 clear hi hgb d1 hx1 hx1' hj1
 go_wp2_with fail
 refine Reg.wp_region_state (A := ?Ar7Ti) (fun _ w' => Keeps [] v3 w') (fun _ _ => True)
  (Is (.pointer (some ⟨b, 0, none⟩)) :: Is (.bool true) :: Is (.bool true) :: Is (.pointer (some ⟨b, 0, none⟩)) :: Is (.pointer (some ⟨b, 0, none⟩)) :: Is (.pointer (some ⟨b, 1, none⟩)) :: Is (.int .i64 (i : Int)) :: Is (.int .i64 (j1 : Int)) :: Is (.pointer (some ⟨b, 0, none⟩)) :: Is (.pointer (some ⟨b, 0, none⟩)) :: Is (.pointer (some ⟨b, 0, none⟩)) :: Is (.slice (some ⟨g, off, none⟩) L cap) :: Is (.int .i64 (L : Int)) :: Is (.bool true) :: Is (.bool true) :: Is (.bool true) :: Is (.pointer (some ⟨b, 0, none⟩)) :: Is (.pointer (some ⟨b, 0, none⟩)) :: Is (.pointer (some ⟨b, 0, none⟩)) :: Is (.slice (some ⟨g, off, none⟩) L cap) :: Is (.pointer (some ⟨b, 0, none⟩)) :: Is (.pointer (some ⟨b, 0, none⟩)) :: Is (.pointer (some ⟨b, 1, none⟩)) :: Is (.int .i64 (i : Int)) :: Is (.int .i64 (j1 : Int)) :: Is (.pointer (some ⟨g, off + j1 * 3, none⟩)) :: Is (.pointer (some ⟨g, off + j1 * 3 + 1, none⟩)) :: Is (.string x1) :: Is (.bool false) :: Is (.bool false) :: Is (.bool false) :: [])
  (by kernel_rfl) (by kernel_rfl) rfl ?hr7TiA ?hr7TiC ?hr7Tio ?hr7Tilast ?hr7Tiend
 case hr7TiA => intro vs; simp only [Reg.fill, if_true, Nat.zero_add, Nat.reduceAdd, Act.put, List.setIfInBounds_toArray, List.set_cons_succ, List.set_cons_zero]; exact rfl
 case hr7TiC => exact (Keeps.refl _ _).drew
 case hr7Tilast => repeat (first | exact trivial | refine ⟨fun _ _ _ h _ => h, ?_⟩)
 case hr7Tio =>
  repeat' apply And.intro
  all_goals
   first
    | exact trivial
    | (
     intro Ls vs w' hC hLs hd K hK
     try simp only [Reg.Deps, Reg.at_, List.getD_cons_zero, List.getD_cons_succ, Region.binds, true_implies, Is, and_true] at hd
     have cx0 := hC.cell_some c0 (by simp)
     have cx1 := hC.cell_some c1 (by simp)
     have cx2 := hC.cell_some e1 (by simp)
     go_simp
     first
      | exact hK _ _ hC trivial rfl
      | skip)
  ·
   refine (HNM.out _ (HS.out.keep hC)).mono ?_
   rintro e w9 ⟨rfl, hk⟩
   exact ⟨_, rfl, hK _ _ (hC.trans hk (fun _ h _ => h)) trivial rfl⟩
 case hr7Tiend =>
  intro vs u0 hk hall
  simp only [Reg.All, Is, and_true, Nat.zero_add, Nat.reduceAdd] at hall
  obtain ⟨-, -, -, -, -, -, -, -, -, -, -, -, -, -, -, -, -, -, -, -, -, -, -, -, -, -, -, -, -, -, eL⟩ := hall
  rw [eL]
  have HS := zS HS hk
  have HK := Hd (HK.out.trans hk (fun _ h _ => by cases h))
  have HB := Hd (block_keep HB.out hk (by simp))
  have c0 := hk.cell_some c0 (by simp)
  have c1 := hk.cell_some c1 (by simp)
  have e1 := hk.cell_some e1 (by simp)
  clear hk eL
  go_wp2_with fail
  refine Reg.wp_region_state (A := ?Ar12Yi) (fun _ w' => Keeps [] u0 w') (fun _ _ => True)
   (Is (.pointer (some ⟨b, 0, none⟩)) :: Is (.bool true) :: Is (.bool true) :: Is (.pointer (some ⟨b, 0, none⟩)) :: Is (.pointer (some ⟨b, 0, none⟩)) :: Is (.pointer (some ⟨b, 1, none⟩)) :: Is (.int .i64 (i : Int)) :: Is (.int .i64 (j1 : Int)) :: Is (.pointer (some ⟨b, 0, none⟩)) :: Is (.pointer (some ⟨b, 0, none⟩)) :: Is (.pointer (some ⟨b, 0, none⟩)) :: Is (.slice (some ⟨g, off, none⟩) L cap) :: Is (.int .i64 (L : Int)) :: Is (.bool true) :: Is (.bool true) :: Is (.bool true) :: Is (.pointer (some ⟨b, 0, none⟩)) :: Is (.pointer (some ⟨b, 0, none⟩)) :: Is (.pointer (some ⟨b, 0, none⟩)) :: Is (.slice (some ⟨g, off, none⟩) L cap) :: Is (.pointer (some ⟨b, 0, none⟩)) :: Is (.pointer (some ⟨b, 0, none⟩)) :: Is (.pointer (some ⟨b, 1, none⟩)) :: Is (.int .i64 (i : Int)) :: Is (.int .i64 (j1 : Int)) :: Is (.pointer (some ⟨g, off + j1 * 3, none⟩)) :: Is (.pointer (some ⟨g, off + j1 * 3 + 1, none⟩)) :: Is (.string x1) :: Is (.bool true) :: Is (.bool true) :: Is (.bool true) :: [])
   (by kernel_rfl) (by kernel_rfl) rfl ?hr12YiA ?hr12YiC ?hr12Yio ?hr12Yilast ?hr12Yiend
  case hr12YiA => intro vs; simp only [Reg.fill, if_true, Nat.zero_add, Nat.reduceAdd, Act.put, List.setIfInBounds_toArray, List.set_cons_succ, List.set_cons_zero]; exact rfl
  case hr12YiC => exact (Keeps.refl _ _).drew
  case hr12Yilast => repeat (first | exact trivial | refine ⟨fun _ _ _ h _ => h, ?_⟩)
  case hr12Yio =>
   repeat' apply And.intro
   all_goals
    first
     | exact trivial
     | (
      intro Ls vs w' hC hLs hd K hK
      try simp only [Reg.Deps, Reg.at_, List.getD_cons_zero, List.getD_cons_succ, Region.binds, true_implies, Is, and_true] at hd
      have cx0 := hC.cell_some c0 (by simp)
      have cx1 := hC.cell_some c1 (by simp)
      have cx2 := hC.cell_some e1 (by simp)
      go_simp
      first
       | exact hK _ _ hC trivial rfl
       | skip)
   ·
    refine (HNM.out _ (HS.out.keep hC)).mono ?_
    rintro e w9 ⟨rfl, hk⟩
    exact ⟨_, rfl, hK _ _ (hC.trans hk (fun _ h _ => h)) trivial rfl⟩
  case hr12Yiend =>
   intro vs u1 hk hall
   simp only [Reg.All, Is, and_true, Nat.zero_add, Nat.reduceAdd] at hall
   obtain ⟨-, -, -, -, -, -, -, -, -, -, -, -, -, -, -, -, -, -, -, -, -, -, -, -, -, -, -, -, -, -, eL⟩ := hall
   rw [eL]
   have HS := zS HS hk
   have HK := Hd (HK.out.trans hk (fun _ h _ => by cases h))
   have HB := Hd (block_keep HB.out hk (by simp))
   clear hk eL c0 c1 e1
   go_wp2_with fail
   refine (HNA.out _ HS.out).mono ?_
   rintro e v1 ⟨⟨s, rfl, hnm⟩, hs, hk⟩
   have HK := zU HK hk
   have HB := zB HB hk
   have hn2 := hnm _ _ _ rfl HN.out
   obtain rfl : s = t0.text := hn2
   obtain ⟨sy, hsy⟩ : ∃ y, y = strO t0.text := ⟨_, rfl⟩
   have HSY := Hd hsy
   rw [← hsy]
   have HS := Hd hs
   clear hs hk hnm hsy
   obtain ⟨cc0, ff0⟩ := rowi HB.out 0
   obtain ⟨cc2, ff2⟩ := rowi HB.out 2
   obtain ⟨g2, off2, L2, cap2, i2, d0, d1, hi2, hL2, q0, q1, q2, qf, hq⟩ := HS.out.prev
   have hki : Keeps [X] v1 ((v1.setCell ⟨X, 0, none⟩ (.int .i64 8)).setCell ⟨X, 2, none⟩ (.string sy)) := ((Keeps.refl [X] _).set1 _ _).set1 _ _
   have c1X := hki.cell_some d1 (by have := HX.out; simp; omega)
   have HS1 := Hd (HS.out.keepHi hki (by have := HX.out; simp; omega))
   obtain ⟨cs9, hrow9, -, -, -, -, -, hfz9⟩ := HS1.out.row
   have f1X := hfz9 1
   have hbx : b ≠ X := zX
   have hxb : X ≠ b := zX
   have HS := Hd (HS1.out.setI c1X)
   have hk : Keeps [b, X] v1 (((v1.setCell ⟨X, 0, none⟩ (.int .i64 8)).setCell ⟨X, 2, none⟩ (.string sy)).setCell ⟨b, 1, none⟩ (.int .i64 ((i2 : Int) + 1))) := ((hki.mono (by simp)).setCell (by simp) _)
   have HB := Hd (show (((v1.setCell ⟨X, 0, none⟩ (.int .i64 8)).setCell ⟨X, 2, none⟩ (.string sy)).setCell ⟨b, 1, none⟩ (.int .i64 ((i2 : Int) + 1))).heap[X]? = some (.cells (sRow 8 sx sy none none none (.slice none 0 0) (.slice none 0 0) (.slice none 0 0) (a : Int)).toArray 60 (0, 0)) from by
    have h0 := row_set HB.out 0 (.int .i64 8)
    have h1 := row_set h0 2 (.string sy)
    exact block_keep h1 ((Keeps.refl [b] _).set1 1 _) (by simp; omega))
   have HK := Hd (HK.out.trans hk (fun _ h _ => by simpa using h))
   have HXS := Hd (show X < (((v1.setCell ⟨X, 0, none⟩ (.int .i64 8)).setCell ⟨X, 2, none⟩ (.string sy)).setCell ⟨b, 1, none⟩ (.int .i64 ((i2 : Int) + 1))).heap.size from block_lt HB.out)
   clear hk hki hq q0 q1 q2 d0 hrow9 hfz9
   go_wp2_with fail
   refine (HQ.out _ HS.out HXS.out).mono ?_
   rintro e v2 ⟨v, rfl, hv, hk, hs, ha⟩
   have HK := zU HK hk
   have HB := zB HB hk
   clear c1X f1X qf d1
   obtain ⟨Aa, na, ca, rfl⟩ := hv
   have HA := Hd ha
   have HS := Hd hs
   clear hk hs ha
   obtain ⟨cc6, ff6⟩ := rowi HB.out 6
   have hk : Keeps [X] v2 (v2.setCell ⟨X, 6, none⟩ (.slice Aa na ca)) := (Keeps.refl [X] _).set1 _ _
   have HB := Hd (show (v2.setCell ⟨X, 6, none⟩ (.slice Aa na ca)).heap[X]? = some (.cells (sRow 8 sx sy none none none (.slice Aa na ca) (.slice none 0 0) (.slice none 0 0) (a : Int)).toArray 60 (0, 0)) from row_set HB.out 6 _)
   have HK := zU HK hk
   have HS := zI HS hk
   have HA := Hd (fun q0 h => (HA.out q0 h).keepT hk (by simp) (by simp))
   clear hk
   go_wp2
   go_end0
   exact ⟨rfl, HK.out, HS.out, _, ⟨_, _, _, _, _, _, _, _, _, _, _, _, _, _, _, _, rfl⟩, HB.out, fun s0 h => by
    obtain ⟨l0, he, rfl⟩ := Option.map_eq_some_iff.1 h
    rw [HSX.out, HSY.out]
    exact ⟨_, _, _, _, _, _, rfl, rfl, rfl, rfl, HA.out l0 he, qnoSs, qnoSs⟩⟩
def NoIx (σ : St) : Prop := σ.named = false ∨ (∃ ts o k, σ = .live ts o k ∧ Px.isName ts = true ∧ (ts.length < 2 ∨ ∃ t0 t1 r, ts = t0 :: t1 :: r ∧ t1.text ≠ [91] ∧ t1.text ≠ [40]))
theorem qval_sum (f : Nat) (w : World) (b n X a : Nat) (x : Tx) (σ : St) (hs : SA w b n σ) (hX : b < X ∧ X < w.heap.size) (hb : w.heap[X]? = some (.cells (sRow 0 (strO x) ⟨#[]⟩ none none none (.slice none 0 0) (.slice none 0 0) (.slice none 0 0) (a : Int)).toArray 60 (0, 0))) (hv : VKind σ false false false) (hno : NoIx σ) (hf : σ.fits f 3):
 Calls Tryz.prog 119 #[pp b, .pointer (some ⟨X, 0, none⟩)] w (QV w b n X x a ((σ.lift n kI (esum f)).1.map fun e => .mk 0 [] [] (some e) none none [] [] [] 0, (σ.lift n kI (esum f)).2)) := by
 have HX := Hd hX
 have HNM := Hd (fun w' (h : SA w' b n σ) => qnamed_any w' b n _ h)
 have HT1 := Hd (fun w' (h : SA w' b n σ) => qtake_any w' b n _ h [110, 117, 108, 108])
 have HT2 := Hd (fun w' (h : SA w' b n σ) => qtake_any w' b n _ h [38])
 have HT3 := Hd (fun w' (h : SA w' b n σ) => qtake_any w' b n _ h [42])
 obtain ⟨v1, v2, v3⟩ := hv
 unfold St.take at HT1 HT2 HT3
 rw [v1] at HT1
 rw [v2] at HT2
 rw [v3] at HT3
 simp only [if_true, Bool.false_eq_true, if_false] at HT1 HT2 HT3
 obtain ⟨sx, hsx⟩ : ∃ s, s = strO x := ⟨_, rfl⟩
 rw [← hsx] at hb
 have HSX := Hd hsx
 have HB := Hd hb
 have HS := Hd hs
 have HK := Hd (Keeps.refl [b, X] w)
 have HNO := Hd hno
 have HQ := Hd (fun w' (h : SA w' b n σ) (hlo : X < w'.heap.size) => (qe f).sum w' b n σ X h hf (by omega) hlo)
 obtain ⟨P, hP⟩ : ∃ P, P = σ.lift n kI (esum f) := ⟨_, rfl⟩
 rw [← hP] at HQ ⊢
 clear hX v1 v2 v3 hsx hb hs hno hP
 go_enter Tryz.func119, Tryz.ntmps119
 go_wp2_with fail
 refine (cW (HT1.out _ HS.out) HK HB) fun v1 HK HB HS => ?_
 go_wp2_with fail
 refine (cW (HT2.out _ HS.out) HK HB) fun v2 HK HB HS => ?_
 go_wp2_with fail
 refine (cW (HT3.out _ HS.out) HK HB) fun v3 HK HB HS => ?_
 rcases HNO.out with hnm | ⟨ts, o, kk, rfl, hnm, hcase⟩
 ·
  rw [hnm] at HNM
  clear HNO
  go_wp2_with fail
  refine Reg.wp_region_state (A := ?Ar7Ns) (fun _ w' => Keeps [] v3 w') (fun _ _ => True)
   (Is (.pointer (some ⟨b, 0, none⟩)) :: Is (.bool false) :: Is (.bool false) :: Is undef :: Is undef :: Is undef :: Is undef :: Is undef :: Is undef :: Is undef :: Is undef :: Is undef :: Is undef :: Is undef :: Is (.bool false) :: Is (.bool false) :: Is undef :: Is undef :: Is undef :: Is undef :: Is undef :: Is undef :: Is undef :: Is undef :: Is undef :: Is undef :: Is undef :: Is undef :: Is undef :: Is (.bool false) :: Is (.bool false) :: [])
   (by kernel_rfl) (by kernel_rfl) rfl ?hr7NsA ?hr7NsC ?hr7Nso ?hr7Nslast ?hr7Nsend
  case hr7NsA => intro vs; simp only [Reg.fill, if_true, Nat.zero_add, Nat.reduceAdd, Act.put, List.setIfInBounds_toArray, List.set_cons_succ, List.set_cons_zero]; exact rfl
  case hr7NsC => exact (Keeps.refl _ _).drew
  case hr7Nslast => repeat (first | exact trivial | refine ⟨fun _ _ _ h _ => h, ?_⟩)
  case hr7Nso =>
   repeat' apply And.intro
   all_goals
    first
     | exact trivial
     | (
      intro Ls vs w' hC hLs hd K hK
      try simp only [Reg.Deps, Reg.at_, List.getD_cons_zero, List.getD_cons_succ, Region.binds, true_implies, Is, and_true] at hd
      go_simp
      first
       | exact hK _ _ hC trivial rfl
       | skip)
   ·
    refine (HNM.out _ (HS.out.keep hC)).mono ?_
    rintro e w9 ⟨rfl, hk⟩
    exact ⟨_, rfl, hK _ _ (hC.trans hk (fun _ h _ => h)) trivial rfl⟩
  case hr7Nsend =>
   intro vs u0 hk hall
   simp only [Reg.All, Is, and_true, Nat.zero_add, Nat.reduceAdd] at hall
   obtain ⟨-, -, -, -, -, -, -, -, -, -, -, -, -, -, -, -, -, -, -, -, -, -, -, -, -, -, -, -, -, -, eL⟩ := hall
   rw [eL]
   have HS := zS HS hk
   have HK := Hd (HK.out.trans hk (fun _ h _ => by cases h))
   have HB := Hd (block_keep HB.out hk (by simp))
   clear hk eL
   go_wp2_with fail
   refine Reg.wp_region_state (A := ?Ar12Ns) (fun _ w' => Keeps [] u0 w') (fun _ _ => True)
    (Is (.pointer (some ⟨b, 0, none⟩)) :: Is (.bool false) :: Is (.bool false) :: Is undef :: Is undef :: Is undef :: Is undef :: Is undef :: Is undef :: Is undef :: Is undef :: Is undef :: Is undef :: Is undef :: Is (.bool false) :: Is (.bool false) :: Is undef :: Is undef :: Is undef :: Is undef :: Is undef :: Is undef :: Is undef :: Is undef :: Is undef :: Is undef :: Is undef :: Is undef :: Is undef :: Is (.bool false) :: Is (.bool false) :: [])
    (by kernel_rfl) (by kernel_rfl) rfl ?hr12NsA ?hr12NsC ?hr12Nso ?hr12Nslast ?hr12Nsend
   case hr12NsA => intro vs; simp only [Reg.fill, if_true, Nat.zero_add, Nat.reduceAdd, Act.put, List.setIfInBounds_toArray, List.set_cons_succ, List.set_cons_zero]; exact rfl
   case hr12NsC => exact (Keeps.refl _ _).drew
   case hr12Nslast => repeat (first | exact trivial | refine ⟨fun _ _ _ h _ => h, ?_⟩)
   case hr12Nso =>
    repeat' apply And.intro
    all_goals
     first
      | exact trivial
      | (
       intro Ls vs w' hC hLs hd K hK
       try simp only [Reg.Deps, Reg.at_, List.getD_cons_zero, List.getD_cons_succ, Region.binds, true_implies, Is, and_true] at hd
       go_simp
       first
        | exact hK _ _ hC trivial rfl
        | skip)
    ·
     refine (HNM.out _ (HS.out.keep hC)).mono ?_
     rintro e w9 ⟨rfl, hk⟩
     exact ⟨_, rfl, hK _ _ (hC.trans hk (fun _ h _ => h)) trivial rfl⟩
   case hr12Nsend =>
    intro vs u1 hk hall
    simp only [Reg.All, Is, and_true, Nat.zero_add, Nat.reduceAdd] at hall
    obtain ⟨-, -, -, -, -, -, -, -, -, -, -, -, -, -, -, -, -, -, -, -, -, -, -, -, -, -, -, -, -, -, eL⟩ := hall
    rw [eL]
    have HS := zS HS hk
    have HK := Hd (HK.out.trans hk (fun _ h _ => by cases h))
    have HB := Hd (block_keep HB.out hk (by simp))
    clear hk eL
    have HXS := Hd (show X < u1.heap.size from block_lt HB.out)
    go_wp2_with fail
    refine (HQ.out _ HS.out HXS.out).mono ?_
    rintro e v1 ⟨v, rfl, ⟨q, rfl⟩, hk, hs, ha⟩
    have HK := zU HK hk
    have HB := zB HB hk
    have HA := Hd ha
    have HS := Hd hs
    clear hk hs ha
    obtain ⟨cc0, ff0⟩ := rowi HB.out 0
    obtain ⟨cc3, ff3⟩ := rowi HB.out 3
    have hk : Keeps [X] v1 ((v1.setCell ⟨X, 0, none⟩ (.int .i64 0)).setCell ⟨X, 3, none⟩ (.pointer q)) := ((Keeps.refl [X] _).set1 _ _).set1 _ _
    have HB := Hd (show ((v1.setCell ⟨X, 0, none⟩ (.int .i64 0)).setCell ⟨X, 3, none⟩ (.pointer q)).heap[X]? = some (.cells (sRow 0 sx ⟨#[]⟩ q none none (.slice none 0 0) (.slice none 0 0) (.slice none 0 0) (a : Int)).toArray 60 (0, 0)) from by
     have h0 := row_set HB.out 0 (.int .i64 0)
     exact row_set h0 3 _)
    have HK := zU HK hk
    have HS := zI HS hk
    have HA := Hd (fun q0 h => (HA.out q0 h).keep hk (by simp))
    clear hk
    go_wp2
    go_end0
    exact ⟨rfl, HK.out, HS.out, _, ⟨_, _, _, _, _, _, _, _, _, _, _, _, _, _, _, _, rfl⟩, HB.out, fun s0 h => by
     obtain ⟨e0, he, rfl⟩ := Option.map_eq_some_iff.1 h
     rw [HSX.out]
     exact ⟨_, _, _, _, _, _, rfl, HA.out e0 he, rfl, rfl, qnoArgs, qnoSs, qnoSs⟩⟩
 ·
  have hnm2 : (St.live ts o kk).named = true := hnm
  rw [hnm2] at HNM
  rcases hcase with hl | ⟨t0, t1, r, rfl, hq1, hq2⟩
  ·
   obtain ⟨t, r, rfl⟩ := isName_cons hnm
   obtain ⟨g, off, L, cap, i, c0, c1, hi, hL, hlen⟩ := HS.out.anyTwo
   obtain ⟨j1, hj1⟩ : ∃ j, j = i + 1 := ⟨_, rfl⟩
   have hs1 : IntKind.i64.wrap ((i : Int) + 1) = (j1 : Int) := by rw [IntWalk.i64_in _ (by omega)]; omega
   have hm2 : decide ((j1 : Int) < (L : Int)) = false := by simp at hl ⊢; omega
   have hn2 : decide (j1 < L) = false := by simp at hl ⊢; omega
   have hl2 : ¬ (j1 : Int) < (L : Int) := by simp at hl; omega
   clear hnm hnm2 HNO hi hj1 hl hlen
   go_wp2_with fail
   refine Reg.wp_region_state (A := ?Ar7Ss) (fun _ w' => Keeps [] v3 w') (fun _ _ => True)
    (Is (.pointer (some ⟨b, 0, none⟩)) :: Is (.bool true) :: Is (.bool true) :: Is (.pointer (some ⟨b, 0, none⟩)) :: Is (.pointer (some ⟨b, 0, none⟩)) :: Is (.pointer (some ⟨b, 1, none⟩)) :: Is (.int .i64 (i : Int)) :: Is (.int .i64 (j1 : Int)) :: Is (.pointer (some ⟨b, 0, none⟩)) :: Is (.pointer (some ⟨b, 0, none⟩)) :: Is (.pointer (some ⟨b, 0, none⟩)) :: Is (.slice (some ⟨g, off, none⟩) L cap) :: Is (.int .i64 (L : Int)) :: Is (.bool false) :: Is (.bool false) :: Is (.bool false) :: Is undef :: Is undef :: Is undef :: Is undef :: Is undef :: Is undef :: Is undef :: Is undef :: Is undef :: Is undef :: Is undef :: Is undef :: Is undef :: Is (.bool false) :: Is (.bool false) :: [])
    (by kernel_rfl) (by kernel_rfl) rfl ?hr7SsA ?hr7SsC ?hr7Sso ?hr7Sslast ?hr7Ssend
   case hr7SsA => intro vs; simp only [Reg.fill, if_true, Nat.zero_add, Nat.reduceAdd, Act.put, List.setIfInBounds_toArray, List.set_cons_succ, List.set_cons_zero]; exact rfl
   case hr7SsC => exact (Keeps.refl _ _).drew
   case hr7Sslast => repeat (first | exact trivial | refine ⟨fun _ _ _ h _ => h, ?_⟩)
   case hr7Sso =>
    repeat' apply And.intro
    all_goals
     first
      | exact trivial
      | (
       intro Ls vs w' hC hLs hd K hK
       try simp only [Reg.Deps, Reg.at_, List.getD_cons_zero, List.getD_cons_succ, Region.binds, true_implies, Is, and_true] at hd
       have cx0 := hC.cell_some c0 (by simp)
       have cx1 := hC.cell_some c1 (by simp)
       go_simp
       first
        | exact hK _ _ hC trivial rfl
        | skip)
    ·
     refine (HNM.out _ (HS.out.keep hC)).mono ?_
     rintro e w9 ⟨rfl, hk⟩
     exact ⟨_, rfl, hK _ _ (hC.trans hk (fun _ h _ => h)) trivial rfl⟩
   case hr7Ssend =>
    intro vs u0 hk hall
    simp only [Reg.All, Is, and_true, Nat.zero_add, Nat.reduceAdd] at hall
    obtain ⟨-, -, -, -, -, -, -, -, -, -, -, -, -, -, -, -, -, -, -, -, -, -, -, -, -, -, -, -, -, -, eL⟩ := hall
    rw [eL]
    have HS := zS HS hk
    have HK := Hd (HK.out.trans hk (fun _ h _ => by cases h))
    have HB := Hd (block_keep HB.out hk (by simp))
    have c0 := hk.cell_some c0 (by simp)
    have c1 := hk.cell_some c1 (by simp)
    clear hk eL
    go_wp2_with fail
    refine Reg.wp_region_state (A := ?Ar12Ss) (fun _ w' => Keeps [] u0 w') (fun _ _ => True)
     (Is (.pointer (some ⟨b, 0, none⟩)) :: Is (.bool true) :: Is (.bool true) :: Is (.pointer (some ⟨b, 0, none⟩)) :: Is (.pointer (some ⟨b, 0, none⟩)) :: Is (.pointer (some ⟨b, 1, none⟩)) :: Is (.int .i64 (i : Int)) :: Is (.int .i64 (j1 : Int)) :: Is (.pointer (some ⟨b, 0, none⟩)) :: Is (.pointer (some ⟨b, 0, none⟩)) :: Is (.pointer (some ⟨b, 0, none⟩)) :: Is (.slice (some ⟨g, off, none⟩) L cap) :: Is (.int .i64 (L : Int)) :: Is (.bool false) :: Is (.bool false) :: Is (.bool false) :: Is undef :: Is undef :: Is undef :: Is undef :: Is undef :: Is undef :: Is undef :: Is undef :: Is undef :: Is undef :: Is undef :: Is undef :: Is undef :: Is (.bool false) :: Is (.bool false) :: [])
     (by kernel_rfl) (by kernel_rfl) rfl ?hr12SsA ?hr12SsC ?hr12Sso ?hr12Sslast ?hr12Ssend
    case hr12SsA => intro vs; simp only [Reg.fill, if_true, Nat.zero_add, Nat.reduceAdd, Act.put, List.setIfInBounds_toArray, List.set_cons_succ, List.set_cons_zero]; exact rfl
    case hr12SsC => exact (Keeps.refl _ _).drew
    case hr12Sslast => repeat (first | exact trivial | refine ⟨fun _ _ _ h _ => h, ?_⟩)
    case hr12Sso =>
     repeat' apply And.intro
     all_goals
      first
       | exact trivial
       | (
        intro Ls vs w' hC hLs hd K hK
        try simp only [Reg.Deps, Reg.at_, List.getD_cons_zero, List.getD_cons_succ, Region.binds, true_implies, Is, and_true] at hd
        have cx0 := hC.cell_some c0 (by simp)
        have cx1 := hC.cell_some c1 (by simp)
        go_simp
        first
         | exact hK _ _ hC trivial rfl
         | skip)
     ·
      refine (HNM.out _ (HS.out.keep hC)).mono ?_
      rintro e w9 ⟨rfl, hk⟩
      exact ⟨_, rfl, hK _ _ (hC.trans hk (fun _ h _ => h)) trivial rfl⟩
    case hr12Ssend =>
     intro vs u1 hk hall
     simp only [Reg.All, Is, and_true, Nat.zero_add, Nat.reduceAdd] at hall
     obtain ⟨-, -, -, -, -, -, -, -, -, -, -, -, -, -, -, -, -, -, -, -, -, -, -, -, -, -, -, -, -, -, eL⟩ := hall
     rw [eL]
     have HS := zS HS hk
     have HK := Hd (HK.out.trans hk (fun _ h _ => by cases h))
     have HB := Hd (block_keep HB.out hk (by simp))
     clear hk eL c0 c1
     have HXS := Hd (show X < u1.heap.size from block_lt HB.out)
     go_wp2_with fail
     refine (HQ.out _ HS.out HXS.out).mono ?_
     rintro e v1 ⟨v, rfl, ⟨q, rfl⟩, hk, hs, ha⟩
     have HK := zU HK hk
     have HB := zB HB hk
     have HA := Hd ha
     have HS := Hd hs
     clear hk hs ha
     obtain ⟨cc0, ff0⟩ := rowi HB.out 0
     obtain ⟨cc3, ff3⟩ := rowi HB.out 3
     have hk : Keeps [X] v1 ((v1.setCell ⟨X, 0, none⟩ (.int .i64 0)).setCell ⟨X, 3, none⟩ (.pointer q)) := ((Keeps.refl [X] _).set1 _ _).set1 _ _
     have HB := Hd (show ((v1.setCell ⟨X, 0, none⟩ (.int .i64 0)).setCell ⟨X, 3, none⟩ (.pointer q)).heap[X]? = some (.cells (sRow 0 sx ⟨#[]⟩ q none none (.slice none 0 0) (.slice none 0 0) (.slice none 0 0) (a : Int)).toArray 60 (0, 0)) from by
      have h0 := row_set HB.out 0 (.int .i64 0)
      exact row_set h0 3 _)
     have HK := zU HK hk
     have HS := zI HS hk
     have HA := Hd (fun q0 h => (HA.out q0 h).keep hk (by simp))
     clear hk
     go_wp2
     go_end0
     exact ⟨rfl, HK.out, HS.out, _, ⟨_, _, _, _, _, _, _, _, _, _, _, _, _, _, _, _, rfl⟩, HB.out, fun s0 h => by
      obtain ⟨e0, he, rfl⟩ := Option.map_eq_some_iff.1 h
      rw [HSX.out]
      exact ⟨_, _, _, _, _, _, rfl, HA.out e0 he, rfl, rfl, qnoArgs, qnoSs, qnoSs⟩⟩
  ·
   obtain ⟨g, off, L, cap, i, c0, c1, hi, hL, hgb, d1⟩ := HS.out.two2
   obtain ⟨j1, hj1⟩ : ∃ j, j = i + 1 := ⟨_, rfl⟩
   rw [← hj1] at d1
   obtain ⟨x1, hx1⟩ : ∃ x, x = strO t1.text := ⟨_, rfl⟩
   have hx1' := strO_toList t1.text
   rw [← hx1] at d1 hx1'
   have e1 := d1
   have hs1 : IntKind.i64.wrap ((i : Int) + 1) = (j1 : Int) := by rw [IntWalk.i64_in _ (by omega)]; omega
   have hl1 : (j1 : Int) < (L : Int) := by omega
   have hm1 : decide ((j1 : Int) < (L : Int)) = true := by simp; omega
   have hn1 : decide (j1 < L) = true := by simp; omega
   have hp1 : (0 : Int) ≤ (j1 : Int) := by omega
   have y1 : (x1.toList == [91]) = false := by rw [hx1']; simpa using hq1
   have y1' : (x1.toList == [40]) = false := by rw [hx1']; simpa using hq2
   have hne : g ≠ b := by omega
   clear hi hgb d1 hx1 hx1' hj1 hq1 hq2 hnm hnm2 HNO
   go_wp2_with fail
   refine Reg.wp_region_state (A := ?Ar7Ts) (fun _ w' => Keeps [] v3 w') (fun _ _ => True)
    (Is (.pointer (some ⟨b, 0, none⟩)) :: Is (.bool true) :: Is (.bool true) :: Is (.pointer (some ⟨b, 0, none⟩)) :: Is (.pointer (some ⟨b, 0, none⟩)) :: Is (.pointer (some ⟨b, 1, none⟩)) :: Is (.int .i64 (i : Int)) :: Is (.int .i64 (j1 : Int)) :: Is (.pointer (some ⟨b, 0, none⟩)) :: Is (.pointer (some ⟨b, 0, none⟩)) :: Is (.pointer (some ⟨b, 0, none⟩)) :: Is (.slice (some ⟨g, off, none⟩) L cap) :: Is (.int .i64 (L : Int)) :: Is (.bool true) :: Is (.bool true) :: Is (.bool true) :: Is (.pointer (some ⟨b, 0, none⟩)) :: Is (.pointer (some ⟨b, 0, none⟩)) :: Is (.pointer (some ⟨b, 0, none⟩)) :: Is (.slice (some ⟨g, off, none⟩) L cap) :: Is (.pointer (some ⟨b, 0, none⟩)) :: Is (.pointer (some ⟨b, 0, none⟩)) :: Is (.pointer (some ⟨b, 1, none⟩)) :: Is (.int .i64 (i : Int)) :: Is (.int .i64 (j1 : Int)) :: Is (.pointer (some ⟨g, off + j1 * 3, none⟩)) :: Is (.pointer (some ⟨g, off + j1 * 3 + 1, none⟩)) :: Is (.string x1) :: Is (.bool false) :: Is (.bool false) :: Is (.bool false) :: [])
    (by kernel_rfl) (by kernel_rfl) rfl ?hr7TsA ?hr7TsC ?hr7Tso ?hr7Tslast ?hr7Tsend
   case hr7TsA => intro vs; simp only [Reg.fill, if_true, Nat.zero_add, Nat.reduceAdd, Act.put, List.setIfInBounds_toArray, List.set_cons_succ, List.set_cons_zero]; exact rfl
   case hr7TsC => exact (Keeps.refl _ _).drew
   case hr7Tslast => repeat (first | exact trivial | refine ⟨fun _ _ _ h _ => h, ?_⟩)
   case hr7Tso =>
    repeat' apply And.intro
    all_goals
     first
      | exact trivial
      | (
       intro Ls vs w' hC hLs hd K hK
       try simp only [Reg.Deps, Reg.at_, List.getD_cons_zero, List.getD_cons_succ, Region.binds, true_implies, Is, and_true] at hd
       have cx0 := hC.cell_some c0 (by simp)
       have cx1 := hC.cell_some c1 (by simp)
       have cx2 := hC.cell_some e1 (by simp)
       go_simp
       first
        | exact hK _ _ hC trivial rfl
        | skip)
    ·
     refine (HNM.out _ (HS.out.keep hC)).mono ?_
     rintro e w9 ⟨rfl, hk⟩
     exact ⟨_, rfl, hK _ _ (hC.trans hk (fun _ h _ => h)) trivial rfl⟩
   case hr7Tsend =>
    intro vs u0 hk hall
    simp only [Reg.All, Is, and_true, Nat.zero_add, Nat.reduceAdd] at hall
    obtain ⟨-, -, -, -, -, -, -, -, -, -, -, -, -, -, -, -, -, -, -, -, -, -, -, -, -, -, -, -, -, -, eL⟩ := hall
    rw [eL]
    have HS := zS HS hk
    have HK := Hd (HK.out.trans hk (fun _ h _ => by cases h))
    have HB := Hd (block_keep HB.out hk (by simp))
    have c0 := hk.cell_some c0 (by simp)
    have c1 := hk.cell_some c1 (by simp)
    have e1 := hk.cell_some e1 (by simp)
    clear hk eL
    go_wp2_with fail
    refine Reg.wp_region_state (A := ?Ar12Ts) (fun _ w' => Keeps [] u0 w') (fun _ _ => True)
     (Is (.pointer (some ⟨b, 0, none⟩)) :: Is (.bool true) :: Is (.bool true) :: Is (.pointer (some ⟨b, 0, none⟩)) :: Is (.pointer (some ⟨b, 0, none⟩)) :: Is (.pointer (some ⟨b, 1, none⟩)) :: Is (.int .i64 (i : Int)) :: Is (.int .i64 (j1 : Int)) :: Is (.pointer (some ⟨b, 0, none⟩)) :: Is (.pointer (some ⟨b, 0, none⟩)) :: Is (.pointer (some ⟨b, 0, none⟩)) :: Is (.slice (some ⟨g, off, none⟩) L cap) :: Is (.int .i64 (L : Int)) :: Is (.bool true) :: Is (.bool true) :: Is (.bool true) :: Is (.pointer (some ⟨b, 0, none⟩)) :: Is (.pointer (some ⟨b, 0, none⟩)) :: Is (.pointer (some ⟨b, 0, none⟩)) :: Is (.slice (some ⟨g, off, none⟩) L cap) :: Is (.pointer (some ⟨b, 0, none⟩)) :: Is (.pointer (some ⟨b, 0, none⟩)) :: Is (.pointer (some ⟨b, 1, none⟩)) :: Is (.int .i64 (i : Int)) :: Is (.int .i64 (j1 : Int)) :: Is (.pointer (some ⟨g, off + j1 * 3, none⟩)) :: Is (.pointer (some ⟨g, off + j1 * 3 + 1, none⟩)) :: Is (.string x1) :: Is (.bool false) :: Is (.bool false) :: Is (.bool false) :: [])
     (by kernel_rfl) (by kernel_rfl) rfl ?hr12TsA ?hr12TsC ?hr12Tso ?hr12Tslast ?hr12Tsend
    case hr12TsA => intro vs; simp only [Reg.fill, if_true, Nat.zero_add, Nat.reduceAdd, Act.put, List.setIfInBounds_toArray, List.set_cons_succ, List.set_cons_zero]; exact rfl
    case hr12TsC => exact (Keeps.refl _ _).drew
    case hr12Tslast => repeat (first | exact trivial | refine ⟨fun _ _ _ h _ => h, ?_⟩)
    case hr12Tso =>
     repeat' apply And.intro
     all_goals
      first
       | exact trivial
       | (
        intro Ls vs w' hC hLs hd K hK
        try simp only [Reg.Deps, Reg.at_, List.getD_cons_zero, List.getD_cons_succ, Region.binds, true_implies, Is, and_true] at hd
        have cx0 := hC.cell_some c0 (by simp)
        have cx1 := hC.cell_some c1 (by simp)
        have cx2 := hC.cell_some e1 (by simp)
        go_simp
        first
         | exact hK _ _ hC trivial rfl
         | skip)
     ·
      refine (HNM.out _ (HS.out.keep hC)).mono ?_
      rintro e w9 ⟨rfl, hk⟩
      exact ⟨_, rfl, hK _ _ (hC.trans hk (fun _ h _ => h)) trivial rfl⟩
    case hr12Tsend =>
     intro vs u1 hk hall
     simp only [Reg.All, Is, and_true, Nat.zero_add, Nat.reduceAdd] at hall
     obtain ⟨-, -, -, -, -, -, -, -, -, -, -, -, -, -, -, -, -, -, -, -, -, -, -, -, -, -, -, -, -, -, eL⟩ := hall
     rw [eL]
     have HS := zS HS hk
     have HK := Hd (HK.out.trans hk (fun _ h _ => by cases h))
     have HB := Hd (block_keep HB.out hk (by simp))
     clear hk eL c0 c1 e1
     have HXS := Hd (show X < u1.heap.size from block_lt HB.out)
     go_wp2_with fail
     refine (HQ.out _ HS.out HXS.out).mono ?_
     rintro e v1 ⟨v, rfl, ⟨q, rfl⟩, hk, hs, ha⟩
     have HK := zU HK hk
     have HB := zB HB hk
     have HA := Hd ha
     have HS := Hd hs
     clear hk hs ha
     obtain ⟨cc0, ff0⟩ := rowi HB.out 0
     obtain ⟨cc3, ff3⟩ := rowi HB.out 3
     have hk : Keeps [X] v1 ((v1.setCell ⟨X, 0, none⟩ (.int .i64 0)).setCell ⟨X, 3, none⟩ (.pointer q)) := ((Keeps.refl [X] _).set1 _ _).set1 _ _
     have HB := Hd (show ((v1.setCell ⟨X, 0, none⟩ (.int .i64 0)).setCell ⟨X, 3, none⟩ (.pointer q)).heap[X]? = some (.cells (sRow 0 sx ⟨#[]⟩ q none none (.slice none 0 0) (.slice none 0 0) (.slice none 0 0) (a : Int)).toArray 60 (0, 0)) from by
      have h0 := row_set HB.out 0 (.int .i64 0)
      exact row_set h0 3 _)
     have HK := zU HK hk
     have HS := zI HS hk
     have HA := Hd (fun q0 h => (HA.out q0 h).keep hk (by simp))
     clear hk
     go_wp2
     go_end0
     exact ⟨rfl, HK.out, HS.out, _, ⟨_, _, _, _, _, _, _, _, _, _, _, _, _, _, _, _, rfl⟩, HB.out, fun s0 h => by
      obtain ⟨e0, he, rfl⟩ := Option.map_eq_some_iff.1 h
      rw [HSX.out]
      exact ⟨_, _, _, _, _, _, rfl, HA.out e0 he, rfl, rfl, qnoArgs, qnoSs, qnoSs⟩⟩
end Go.Proofs.YtbikifibfaaggaaGreatDoor
