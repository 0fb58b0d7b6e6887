import Derived.Test.YtbikifibfaaggaaGreatDoorVPSim
namespace Go.Proofs.YtbikifibfaaggaaGreatDoor
section
set_option maxHeartbeats 2000000
set_option maxRecDepth 100000
open Go.RowKit Go.Shelf
open Lx (Tok Tx)
open Px (Ex Cn Sm)
theorem simple_any (w : World) (b n o k : Nat) (ts : List Tok) (f : Nat) (h : PAt w b n ts o k) (ho2 : o ≤ 1000) (hf : 4 * ts.length + 6 ≤ f) :
 Calls Tryz.prog 151 #[pp b] w (RP Sm0At (fun _ => k) w b n o (Px.simple f o ts)) := by
 have hb : ∀ {x : Bool}, ¬ x = true → x = false := fun {x} h => by simpa using h
 unfold Px.simple
 by_cases h1 : Px.sees ts [114, 101, 116, 117, 114, 110] = true
 · rw [if_pos h1]; exact simple_ret w b n o k ts f h ho2 hf h1
 rw [if_neg h1]
 by_cases h2 : Px.sees ts [97, 115, 115, 101, 114, 116] = true
 · rw [if_pos h2]; exact simple_ass w b n o k ts f h ho2 hf (hb h1) h2
 rw [if_neg h2]
 by_cases h3 : Px.sees ts [42] = true
 · rw [if_pos h3]; exact simple_store w b n o k ts f h ho2 hf (hb h1) (hb h2) h3
 rw [if_neg h3]
 by_cases hx : (Px.txt ts 1 == [91]) = true
 · rw [if_pos hx, ← bind_id (Px.put f o ts)]; exact simple_put w b n o k ts f h ho2 hf (hb h1) (hb h2) (hb h3) hx
 rw [if_neg hx]
 by_cases hz : (Px.txt ts 1 == [40]) = true
 · rw [if_pos hz, ← bind_id (Px.call f o ts)]; exact simple_call w b n o k ts f h ho2 hf (hb h1) (hb h2) (hb h3) (hb hx) hz
 rw [if_neg hz]
 exact simple_set w b n o k ts f h ho2 hf (hb h1) (hb h2) (hb h3) (hb hx) (hb hz)
def SsB (w : World) (b : Nat) (B : Nat → Prop) (l : List Sm) (v : Value) : Prop := ∃ cs, w.ownsRow (b + 1) 60 10 v l.length cs ∧ (∀ g, v.ownBlock = some g → B g) ∧ SmC w b B l cs
theorem SsB.keep {w w' : World} {b : Nat} {B : Nat → Prop} {S : List Nat} {l : List Sm} {v : Value} (h : SsB w b B l v) (hk : Keeps S w w') (hS : Off w b B S) : SsB w' b B l v := by
 obtain ⟨cs, h1, h2, h3⟩ := h
 refine ⟨cs, owned_keep h1 hk (fun g hg hm => ?_), h2, SmC.keep hk hS l cs h3⟩
 have := (rowOf h1 hg).1
 rcases hS _ hm with q | q
 · omega
 · exact q.1 (h2 g hg)
theorem off_b {w : World} {b : Nat} {B : Nat → Prop} : Off w b B [b] := fun y hy => .inl (by simp at hy; omega)
theorem off_nil {w : World} {b : Nat} {B : Nat → Prop} : Off w b B [] := fun y hy => by simp at hy
theorem SsB.keepb {w w' : World} {b : Nat} {B : Nat → Prop} {l : List Sm} {v : Value} (h : SsB w b B l v) (hk : Keeps [b] w w') : SsB w' b B l v := h.keep hk off_b
theorem SsB.alloc {w : World} {b : Nat} {B : Nat → Prop} {l : List Sm} {v : Value} (h : SsB w b B l v) (obj : Obj) : SsB (w.alloc obj) b B l v := h.keep ((Keeps.refl [] _).alloc _) off_nil
theorem SsB.wider {w : World} {b : Nat} {B B' : Nat → Prop} {l : List Sm} {v : Value} (h : SsB w b B l v) (hB : ∀ g, B g → B' g) : SsB w b B' l v := by
 obtain ⟨cs, h1, h2, h3⟩ := h
 exact ⟨cs, h1, fun g hg => hB g (h2 g hg), SmC.wider hB l cs h3⟩
theorem SsB.form {w : World} {b : Nat} {B : Nat → Prop} {l : List Sm} {v : Value} (h : SsB w b B l v) : ∃ A c, v = .slice A l.length c := by
 obtain ⟨cs, h1, _⟩ := h
 exact row_slice h1
theorem SsB.none {w : World} {b : Nat} {B : Nat → Prop} : SsB w b B [] (.slice .none 0 0) := noBlock
def SsAt (lo : Nat) (w : World) (b : Nat) (p : List Sm × Nat) (v : Value) : Prop := ∃ B, SsB w b B p.1 v ∧ ∀ g, B g → lo ≤ g ∧ g < w.heap.size
def SmBAt (lo : Nat) (w : World) (b : Nat) (p : Sm × Nat) (v : Value) : Prop := ∃ vs B, v = .agg vs.toArray ∧ SmAt w b B p.1 vs ∧ ∀ g, B g → lo ≤ g ∧ g < w.heap.size
theorem SsAt.keepb {lo : Nat} {w w' : World} {b : Nat} {p : List Sm × Nat} {v : Value} (h : SsAt lo w b p v) (hk : Keeps [b] w w') : SsAt lo w' b p v := by
 obtain ⟨B, h1, h2⟩ := h
 exact ⟨B, h1.keepb hk, fun g hg => ⟨(h2 g hg).1, by have := (h2 g hg).2; have := hk.size; omega⟩⟩
theorem SsAt.form {lo : Nat} {w : World} {b : Nat} {p : List Sm × Nat} {v : Value} (h : SsAt lo w b p v) : ∃ A c, v = .slice A p.1.length c := by
 obtain ⟨B, h1, _⟩ := h
 exact h1.form
theorem loop_any (w : World) (b n o k : Nat) (ts : List Tok) (f : Nat) (h : PAt w b n ts o k) (ho2 : o ≤ 1000) (hf : 4 * ts.length + 6 ≤ f) (blk : Nat → List Tok → Px.R (List Sm × Nat)) (hblk : ∀ k r a r', blk k r = .ok a r' → r'.length < r.length) (hbk : ∀ w' r k', PAt w' b n r o k' → r.length < ts.length → Calls Tryz.prog 178 #[pp b] w' (RP (SsAt w'.heap.size) Prod.snd w' b n o (blk k' r))) :
 Calls Tryz.prog 150 #[pp b] w (RP (SmBAt w.heap.size) (Prod.snd) w b n o (Px.loop blk f o k ts)) := by
 obtain ⟨R, hR⟩ : ∃ R, R = (Px.loop blk f o k ts) := ⟨_, rfl⟩
 rw [← hR]
 unfold Px.loop Px.want at hR
 have HR := Hd hR
 have HF := Hd hf
 have H0 := Hd h
 have HK0 := Hd (Keeps.refl [b] w)
 have hbl := h.lt
 have HBL := Hd hbl
 have hmf := hmf0
 obtain ⟨H0, HK0, HB0⟩ := start_p h
 have HBK := Hd hbk
 have HBLK := Hd hblk
 clear h hf hR hbl hblk hbk
 go_enter Tryz.func150, Tryz.ntmps150
 have HC0 := Hd (fun w' (h' : PAt w' b n (ts) o k) => pass_rp w' b n o k (ts) h' [119, 104, 105, 108, 101] (by simp))
 have hlen := fun a r (h : Px.passR [119, 104, 105, 108, 101] ts = .ok a r) => Px.passR_len (by simp) h
 have hR := HR.out
 obtain ⟨rr, hrr⟩ : ∃ x, x = Px.passR [119, 104, 105, 108, 101] ts := ⟨_, rfl⟩
 rw [← hrr] at HC0 hlen hR
 have HR := Hd hR
 have HLEN := Hd hlen
 clear hR hlen hrr
 go_wp2_with fail
 refine (HC0.out _ H0.out).mono ?_
 intro e w1 hr
 cases rr with
 | err z r =>
  obtain ⟨rfl, H4, H5⟩ := zE hr HK0
  go_wp2
  rw [HR.out]
  exact ⟨rfl, rfl, H4.out, H5.out⟩
 | ok a1 r1 =>
  obtain ⟨v1, rfl, h3, h4, h5⟩ := hr
  have HL1 := Hd (HLEN.out a1 r1 rfl)
  have HR := zR1 HR
  have HB0Q := HB0
  obtain rfl : v1 = .tuple #[] := h3
  have HW1 := Hd h4
  have HKW1 := zV HK0 h5
  have HSTEP1 := Hd h5
  have HB0 := zL HB0 h5
  clear h4 h5
  have HC1 := Hd (fun w' (h' : PAt w' b n (r1) o k) => test_any w' b n o k (r1) f h' ho2 (by have := HF.out; have := HL1.out; omega))
  have hlen := fun a r (h : Px.test f o r1 = .ok a r) => Px.test_len h
  have hR := HR.out
  obtain ⟨rr, hrr⟩ : ∃ x, x = Px.test f o r1 := ⟨_, rfl⟩
  rw [← hrr] at HC1 hlen hR
  have HR := Hd hR
  have HLEN := Hd hlen
  clear hR hlen hrr
  go_wp2_with fail
  refine (HC1.out _ HW1.out).mono ?_
  intro e w2 hr
  cases rr with
  | err z r =>
   obtain ⟨rfl, H4, H5⟩ := zE hr HKW1
   go_wp2
   rw [HR.out]
   exact ⟨rfl, rfl, H4.out, H5.out⟩
  | ok a2 r2 =>
   obtain ⟨v2, rfl, h3, h4, h5⟩ := hr
   have HL2 := Hd (HLEN.out a2 r2 rfl)
   have HR := zR1 HR
   have HB0Q := HB0
   have E2 := Hd h3
   obtain ⟨x2, rfl⟩ := h3.ptr
   clear h3
   have HW2 := Hd h4
   have HKW2 := zV HKW1 h5
   have HSTEP2 := Hd h5
   have HB0 := zL HB0 h5
   clear h4 h5
   have HC2 := Hd (fun w' (h' : PAt w' b n (r2) o k) => HBK.out w' r2 (k) h' (by have := HF.out; have := HL1.out; have := HL2.out; omega))
   have hlen := fun a r (h : blk (k) r2 = .ok a r) => HBLK.out _ _ _ _ h
   have hR := HR.out
   obtain ⟨rr, hrr⟩ : ∃ x, x = blk (k) r2 := ⟨_, rfl⟩
   rw [← hrr] at HC2 hlen hR
   have HR := Hd hR
   have HLEN := Hd hlen
   clear hR hlen hrr
   go_wp2_with fail
   refine (HC2.out _ HW2.out).mono ?_
   intro e w3 hr
   cases rr with
   | err z r =>
    obtain ⟨rfl, H4, H5⟩ := zE hr HKW2
    go_wp2
    rw [HR.out]
    exact ⟨rfl, rfl, H4.out, H5.out⟩
   | ok a3 r3 =>
    obtain ⟨v3, rfl, h3, h4, h5⟩ := hr
    have HL3 := Hd (HLEN.out a3 r3 rfl)
    have HR := zR1 HR
    have HB0Q := HB0
    have E2 := Hd (E2.out.keepb h5)
    obtain ⟨B3, h3, hB⟩ := h3
    have EB3 := Hd hB
    have E3 := Hd h3
    obtain ⟨A3, c3, rfl⟩ := h3.form
    have HB0P := HB0Q
    have HSZ3 := Hd h5.size
    have HLW3 := Hd (block_lt HB0Q.out)
    clear h3 hB
    have HW3 := Hd h4
    have HKW3 := zV HKW2 h5
    have HSTEP3 := Hd h5
    have HB0 := zL HB0 h5
    clear h4 h5
    have hrow := HB0.out
    obtain ⟨c0_0, f0_0, c0_1, f0_1, c0_2, f0_2, c0_3, f0_3, c0_4, f0_4, c0_5, f0_5, c0_6, f0_6, c0_7, f0_7, c0_8, f0_8, c0_9, f0_9⟩ := row10 hrow
    clear hrow
    go_wp2_with fail
    refine bodyPost_ret (v := .agg #[.int .i64 11, .string ⟨#[]⟩, .string ⟨#[]⟩, .pointer none, .pointer none, .pointer (some ⟨x2, 0, none⟩), .slice none 0 0, .slice A3 a3.1.length c3, .slice none 0 0, .int .i64 0]) (by simp [results, Tryz.results150, go_sem, c0_0, c0_1, c0_2, c0_3, c0_4, c0_5, c0_6, c0_7, c0_8, c0_9]) rfl ?_
    refine setsEnd (S := [w.heap.size]) (w := w3) ?_ ?_
    ·
     repeat (refine Keeps.setCell ?_ (by simp) _)
     exact Keeps.refl _ _
    ·
     intro W hk
     have hwk := HKW3.out.size
     have hwk2 := hk.size
     have hbl := HBL.out
     have nt0 := nt3 HB0
     have hB : ∀ g, (B3) g → w.heap.size < g ∧ g < (w3).heap.size := by
      intro g hg; have h7 := EB3.out g hg; have h8 := HLW3.out; exact ⟨by omega, h7.2⟩
     have hoff : Off w3 b (B3) [w.heap.size] := fun y hy => .inr (by
      obtain rfl : y = w.heap.size := by simpa using hy
      exact ⟨fun h => by have h7 := EB3.out _ h; have h8 := HLW3.out; omega, nt0⟩)
     rw [HR.out]
     have hex : SmAt w3 b (B3) (Px.Sm.mk 11 [] [] none none (some a2) [] a3.1 [] 0) [.int .i64 11, .string ⟨#[]⟩, .string ⟨#[]⟩, .pointer none, .pointer none, .pointer (some ⟨x2, 0, none⟩), .slice none 0 0, .slice A3 a3.1.length c3, .slice none 0 0, .int .i64 0] := ⟨_, _, _, _, _, _, rfl, rfl, rfl, E2.out, noArgs, E3.out, SsB.none⟩
     exact ⟨_, rfl, ⟨_, _, rfl, SmAt.keep hk hoff _ _ hex, fun g hg => ⟨by have := (hB g hg).1; omega, by have := (hB g hg).2; omega⟩⟩, HW3.out.keepHi hk (by first | (simp; done) | (simp; omega)), HKW3.out.hi hk (by first | (simp; done) | (simp; omega))⟩
theorem branch_any (w : World) (b n o k : Nat) (ts : List Tok) (f : Nat) (h : PAt w b n ts o k) (ho2 : o ≤ 1000) (hf : 4 * ts.length + 6 ≤ f) (blk : Nat → List Tok → Px.R (List Sm × Nat)) (hblk : ∀ k r a r', blk k r = .ok a r' → r'.length < r.length) (hbk : ∀ w' r k', PAt w' b n r o k' → r.length < ts.length → Calls Tryz.prog 178 #[pp b] w' (RP (SsAt w'.heap.size) Prod.snd w' b n o (blk k' r))) :
 Calls Tryz.prog 149 #[pp b] w (RP (SmBAt w.heap.size) (Prod.snd) w b n o (Px.branch blk f o k ts)) := by
 obtain ⟨R, hR⟩ : ∃ R, R = (Px.branch blk f o k ts) := ⟨_, rfl⟩
 rw [← hR]
 unfold Px.branch Px.want at hR
 have HR := Hd hR
 have HF := Hd hf
 have H0 := Hd h
 have HK0 := Hd (Keeps.refl [b] w)
 have hbl := h.lt
 have HBL := Hd hbl
 have hmf := hmf0
 obtain ⟨H0, HK0, HB0⟩ := start_p h
 have HBK := Hd hbk
 have HBLK := Hd hblk
 clear h hf hR hbl hblk hbk
 go_enter Tryz.func149, Tryz.ntmps149
 have HC0 := Hd (fun w' (h' : PAt w' b n (ts) o k) => pass_rp w' b n o k (ts) h' [105, 102] (by simp))
 have hlen := fun a r (h : Px.passR [105, 102] ts = .ok a r) => Px.passR_len (by simp) h
 have hR := HR.out
 obtain ⟨rr, hrr⟩ : ∃ x, x = Px.passR [105, 102] ts := ⟨_, rfl⟩
 rw [← hrr] at HC0 hlen hR
 have HR := Hd hR
 have HLEN := Hd hlen
 clear hR hlen hrr
 go_wp2_with fail
 refine (HC0.out _ H0.out).mono ?_
 intro e w1 hr
 cases rr with
 | err z r =>
  obtain ⟨rfl, H4, H5⟩ := zE hr HK0
  go_wp2
  rw [HR.out]
  exact ⟨rfl, rfl, H4.out, H5.out⟩
 | ok a1 r1 =>
  obtain ⟨v1, rfl, h3, h4, h5⟩ := hr
  have HL1 := Hd (HLEN.out a1 r1 rfl)
  have HR := zR1 HR
  have HB0Q := HB0
  obtain rfl : v1 = .tuple #[] := h3
  have HW1 := Hd h4
  have HKW1 := zV HK0 h5
  have HSTEP1 := Hd h5
  have HB0 := zL HB0 h5
  clear h4 h5
  have HC1 := Hd (fun w' (h' : PAt w' b n (r1) o k) => test_any w' b n o k (r1) f h' ho2 (by have := HF.out; have := HL1.out; omega))
  have hlen := fun a r (h : Px.test f o r1 = .ok a r) => Px.test_len h
  have hR := HR.out
  obtain ⟨rr, hrr⟩ : ∃ x, x = Px.test f o r1 := ⟨_, rfl⟩
  rw [← hrr] at HC1 hlen hR
  have HR := Hd hR
  have HLEN := Hd hlen
  clear hR hlen hrr
  go_wp2_with fail
  refine (HC1.out _ HW1.out).mono ?_
  intro e w2 hr
  cases rr with
  | err z r =>
   obtain ⟨rfl, H4, H5⟩ := zE hr HKW1
   go_wp2
   rw [HR.out]
   exact ⟨rfl, rfl, H4.out, H5.out⟩
  | ok a2 r2 =>
   obtain ⟨v2, rfl, h3, h4, h5⟩ := hr
   have HL2 := Hd (HLEN.out a2 r2 rfl)
   have HR := zR1 HR
   have HB0Q := HB0
   have E2 := Hd h3
   obtain ⟨x2, rfl⟩ := h3.ptr
   clear h3
   have HW2 := Hd h4
   have HKW2 := zV HKW1 h5
   have HSTEP2 := Hd h5
   have HB0 := zL HB0 h5
   clear h4 h5
   have HC2 := Hd (fun w' (h' : PAt w' b n (r2) o k) => HBK.out w' r2 (k) h' (by have := HF.out; have := HL1.out; have := HL2.out; omega))
   have hlen := fun a r (h : blk (k) r2 = .ok a r) => HBLK.out _ _ _ _ h
   have hR := HR.out
   obtain ⟨rr, hrr⟩ : ∃ x, x = blk (k) r2 := ⟨_, rfl⟩
   rw [← hrr] at HC2 hlen hR
   have HR := Hd hR
   have HLEN := Hd hlen
   clear hR hlen hrr
   go_wp2_with fail
   refine (HC2.out _ HW2.out).mono ?_
   intro e w3 hr
   cases rr with
   | err z r =>
    obtain ⟨rfl, H4, H5⟩ := zE hr HKW2
    go_wp2
    rw [HR.out]
    exact ⟨rfl, rfl, H4.out, H5.out⟩
   | ok a3 r3 =>
    obtain ⟨v3, rfl, h3, h4, h5⟩ := hr
    have HL3 := Hd (HLEN.out a3 r3 rfl)
    have HR := zR1 HR
    have HB0Q := HB0
    have E2 := Hd (E2.out.keepb h5)
    obtain ⟨B3, h3, hB⟩ := h3
    have EB3 := Hd hB
    have E3 := Hd h3
    obtain ⟨A3, c3, rfl⟩ := h3.form
    have HB0P := HB0Q
    have HSZ3 := Hd h5.size
    have HLW3 := Hd (block_lt HB0Q.out)
    clear h3 hB
    have HW3 := Hd h4
    have HKW3 := zV HKW2 h5
    have HSTEP3 := Hd h5
    have HB0 := zL HB0 h5
    clear h4 h5
    have HLT1 := Hd (show w.heap.size < w3.heap.size from block_lt HB0.out)
    have HB1 := Hd (show (w3.alloc (.cells #[.int .i64 10, .string ⟨#[]⟩, .string ⟨#[]⟩, .pointer none, .pointer none, .pointer (some ⟨x2, 0, none⟩), .slice none 0 0, .slice A3 a3.1.length c3, .slice none 0 0, .int .i64 0] 60)).heap[w3.heap.size]? = some (.cells #[.int .i64 10, .string ⟨#[]⟩, .string ⟨#[]⟩, .pointer none, .pointer none, .pointer (some ⟨x2, 0, none⟩), .slice none 0 0, .slice A3 a3.1.length c3, .slice none 0 0, .int .i64 0] 60 (0, 0)) from heap_alloc_new _ _)
    have HB0 := Hd (block_keep HB0.out ((Keeps.refl [] _).alloc (.cells #[.int .i64 10, .string ⟨#[]⟩, .string ⟨#[]⟩, .pointer none, .pointer none, .pointer (some ⟨x2, 0, none⟩), .slice none 0 0, .slice A3 a3.1.length c3, .slice none 0 0, .int .i64 0] 60)) (by simp))
    have E2 := Hd (E2.out.alloc (.cells #[.int .i64 10, .string ⟨#[]⟩, .string ⟨#[]⟩, .pointer none, .pointer none, .pointer (some ⟨x2, 0, none⟩), .slice none 0 0, .slice A3 a3.1.length c3, .slice none 0 0, .int .i64 0] 60))
    have E3 := Hd (E3.out.alloc (.cells #[.int .i64 10, .string ⟨#[]⟩, .string ⟨#[]⟩, .pointer none, .pointer none, .pointer (some ⟨x2, 0, none⟩), .slice none 0 0, .slice A3 a3.1.length c3, .slice none 0 0, .int .i64 0] 60))
    have HBL1 := Hd HW3.out.lt
    have HSZ1 := Hd HKW3.out.size
    have HWA1 := Hd (HW3.out.keep ((Keeps.refl [] _).alloc (.cells #[.int .i64 10, .string ⟨#[]⟩, .string ⟨#[]⟩, .pointer none, .pointer none, .pointer (some ⟨x2, 0, none⟩), .slice none 0 0, .slice A3 a3.1.length c3, .slice none 0 0, .int .i64 0] 60)))
    have HKA1 := Hd (HKW3.out.alloc (.cells #[.int .i64 10, .string ⟨#[]⟩, .string ⟨#[]⟩, .pointer none, .pointer none, .pointer (some ⟨x2, 0, none⟩), .slice none 0 0, .slice A3 a3.1.length c3, .slice none 0 0, .int .i64 0] 60))
    by_cases hel : Px.sees r3 [101, 108, 115, 101] = true
    ·
     have HPE := Hd (fun w' (h' : PAt w' b n r3 o a3.2) => passes_yes w' b n o a3.2 r3 h' [101, 108, 115, 101] (by simp) hel)
     have HLE := Hd (show r3.tail.length < r3.length by have := Px.sees_len (by simp) hel; simp; omega)
     have hR := HR.out
     rw [if_pos hel] at hR
     have HR := Hd hR
     clear hR hel
     go_wp2_with fail
     refine (HPE.out _ HWA1.out).mono ?_
     rintro e w4 ⟨rfl, h1, h2⟩
     have HS34 := Hd (show w3.heap.size + 1 ≤ w4.heap.size by have := h2.size; simpa using this)
     have HW4 := Hd h1
     have HKW4 := zV HKA1 h2
     have E2 := Hd (E2.out.keepb h2)
     have E3 := Hd (E3.out.keepb h2)
     have HB0 := zL HB0 h2
     have HB1 := Hd (block_keep HB1.out h2 (by have := HBL1.out; simp; omega))
     clear h1 h2
     have HC4 := Hd (fun w' (h' : PAt w' b n (r3.tail) o a3.2) => HBK.out w' r3.tail (a3.2) h' (by have := HF.out; have := HL1.out; have := HL2.out; have := HL3.out; have := HLE.out; omega))
     have hlen := fun a r (h : blk (a3.2) (r3.tail) = .ok a r) => HBLK.out _ _ _ _ h
     have hR := HR.out
     obtain ⟨rr, hrr⟩ : ∃ x, x = blk (a3.2) (r3.tail) := ⟨_, rfl⟩
     rw [← hrr] at HC4 hlen hR
     have HR := Hd hR
     have HLEN := Hd hlen
     clear hR hlen hrr
     go_wp2_with fail
     refine (HC4.out _ HW4.out).mono ?_
     intro e w5 hr
     cases rr with
     | err z r =>
      obtain ⟨rfl, H4, H5⟩ := zE hr HKW4
      go_wp2
      rw [HR.out]
      exact ⟨rfl, rfl, H4.out, H5.out⟩
     | ok a5 r5 =>
      obtain ⟨v5, rfl, h3, h4, h5⟩ := hr
      have HL5 := Hd (HLEN.out a5 r5 rfl)
      have HR := zR1 HR
      have HB0Q := HB0
      have HB1Q := HB1
      have E2 := Hd (E2.out.keepb h5)
      have E3 := Hd (E3.out.keepb h5)
      obtain ⟨B5, h3, hB⟩ := h3
      have EB5 := Hd hB
      have E5 := Hd h3
      obtain ⟨A5, c5, rfl⟩ := h3.form
      have HB0P := HB0Q
      have HB1P := HB1Q
      have HSZ5 := Hd h5.size
      have HLW5 := Hd (block_lt HB0Q.out)
      clear h3 hB
      have HW5 := Hd h4
      have HKW5 := zV HKW4 h5
      have HSTEP5 := Hd h5
      have HB0 := zL HB0 h5
      have HB1 := Hd (block_keep HB1.out h5 (by have := HBL1.out; simp; omega))
      clear h4 h5
      obtain ⟨X0, hX0⟩ : ∃ x, x = w.heap.size := ⟨_, rfl⟩
      rw [← hX0] at HB0
      obtain ⟨X1, hX1⟩ : ∃ x, x = w3.heap.size := ⟨_, rfl⟩
      rw [← hX1] at HB1
      have hne1 : X0 ≠ X1 := fun h => by have h9 := HLT1.out; rw [← hX0, ← hX1, h] at h9; omega
      have hne2 : X1 ≠ X0 := fun h => hne1 h.symm
      have HX := Hd (And.intro hX0 hX1)
      simp only [← hX0, ← hX1]
      clear hX0 hX1
      have hrow := HB0.out
      obtain ⟨c0_0, f0_0, c0_1, f0_1, c0_2, f0_2, c0_3, f0_3, c0_4, f0_4, c0_5, f0_5, c0_6, f0_6, c0_7, f0_7, c0_8, f0_8, c0_9, f0_9⟩ := row10 hrow
      clear hrow
      have hrow := HB1.out
      obtain ⟨c1_0, f1_0, c1_1, f1_1, c1_2, f1_2, c1_3, f1_3, c1_4, f1_4, c1_5, f1_5, c1_6, f1_6, c1_7, f1_7, c1_8, f1_8, c1_9, f1_9⟩ := row10 hrow
      clear hrow
      go_wp2_with fail
      go_wp2_with fail
      refine bodyPost_ret (v := .agg #[.int .i64 10, .string ⟨#[]⟩, .string ⟨#[]⟩, .pointer none, .pointer none, .pointer (some ⟨x2, 0, none⟩), .slice none 0 0, .slice A3 a3.1.length c3, .slice A5 a5.1.length c5, .int .i64 0]) (by simp [results, Tryz.results149, go_sem, c0_0, c0_1, c0_2, c0_3, c0_4, c0_5, c0_6, c0_7, c0_8, c0_9, c1_0, c1_1, c1_2, c1_3, c1_4, c1_5, c1_6, c1_7, c1_8, c1_9]) rfl ?_
      refine setsEnd (S := [X0, X1]) (w := w5) ?_ ?_
      ·
       repeat (refine Keeps.setCell ?_ (by simp) _)
       exact Keeps.refl _ _
      ·
       intro W hk
       have hwk := HKW5.out.size
       have hwk2 := hk.size
       have hx0 := HX.out.1
       have hx1 := HX.out.2
       have hbl := HBL.out
       have hbl1 := HBL1.out
       have hlt1 := HLT1.out
       have nt0 := nt3 HB0
       have nt1 := nt3 HB1
       have hB : ∀ g, (fun g => B3 g ∨ B5 g) g → w.heap.size < g ∧ g < (w5).heap.size := by
        intro g hg; rcases hg with h | h; (have h7 := EB3.out g h; have h8 := HLW3.out; have h9 := HSZ5.out; have h10 := HS34.out; exact ⟨by omega, by omega⟩); (have h7 := EB5.out g h; have h8 := HLW5.out; exact ⟨by omega, h7.2⟩)
       have hoff : Off w5 b (fun g => B3 g ∨ B5 g) [X0, X1] := fun y hy => .inr (by
        simp at hy
        rcases hy with rfl | rfl
        · exact ⟨fun h => by rcases h with h | h; (have h7 := EB3.out _ h; have h8 := HLW3.out; omega); (have h7 := EB5.out _ h; have h8 := HLW5.out; omega), nt0⟩
        · exact ⟨fun h => by rcases h with h | h; (have h7 := EB3.out _ h; omega); (have h7 := EB5.out _ h; have h9 := HS34.out; omega), nt1⟩)
       rw [HR.out]
       have hex : SmAt w5 b (fun g => B3 g ∨ B5 g) (Px.Sm.mk 10 [] [] none none (some a2) [] a3.1 a5.1 0) [.int .i64 10, .string ⟨#[]⟩, .string ⟨#[]⟩, .pointer none, .pointer none, .pointer (some ⟨x2, 0, none⟩), .slice none 0 0, .slice A3 a3.1.length c3, .slice A5 a5.1.length c5, .int .i64 0] := ⟨_, _, _, _, _, _, rfl, rfl, rfl, E2.out, noArgs, E3.out.wider (fun g h => .inl h), E5.out.wider (fun g h => .inr h)⟩
       exact ⟨_, rfl, ⟨_, _, rfl, SmAt.keep hk hoff _ _ hex, fun g hg => ⟨by have := (hB g hg).1; omega, by have := (hB g hg).2; omega⟩⟩, HW5.out.keepHi hk (by first | (simp; done) | (simp; omega)), HKW5.out.hi hk (by first | (simp; done) | (simp; omega))⟩
    ·
     have hel2 : Px.sees r3 [101, 108, 115, 101] = false := by simpa using hel
     have HPE := Hd (fun w' (h' : PAt w' b n r3 o a3.2) => passes_no w' b n o a3.2 r3 h' [101, 108, 115, 101] hel2)
     have hR := HR.out
     rw [if_neg hel] at hR
     have HR := Hd hR
     clear hR hel hel2
     go_wp2_with fail
     refine (same (HPE.out _ HWA1.out)) ?_
     obtain ⟨w4, hw4⟩ : ∃ x, x = (w3.alloc (.cells #[.int .i64 10, .string ⟨#[]⟩, .string ⟨#[]⟩, .pointer none, .pointer none, .pointer (some ⟨x2, 0, none⟩), .slice none 0 0, .slice A3 a3.1.length c3, .slice none 0 0, .int .i64 0] 60)) := ⟨_, rfl⟩
     rw [← hw4] at HB0 HB1 E2 E3 HWA1 HKA1
     have HSW := Hd (show w4.heap.size = w3.heap.size + 1 by rw [hw4]; simp)
     simp only [← hw4]
     clear hw4
     obtain ⟨X0, hX0⟩ : ∃ x, x = w.heap.size := ⟨_, rfl⟩
     rw [← hX0] at HB0
     obtain ⟨X1, hX1⟩ : ∃ x, x = w3.heap.size := ⟨_, rfl⟩
     rw [← hX1] at HB1
     have hne1 : X0 ≠ X1 := fun h => by have h9 := HLT1.out; rw [← hX0, ← hX1, h] at h9; omega
     have hne2 : X1 ≠ X0 := fun h => hne1 h.symm
     have HX := Hd (And.intro hX0 hX1)
     simp only [← hX0, ← hX1]
     clear hX0 hX1
     have hrow := HB0.out
     obtain ⟨c0_0, f0_0, c0_1, f0_1, c0_2, f0_2, c0_3, f0_3, c0_4, f0_4, c0_5, f0_5, c0_6, f0_6, c0_7, f0_7, c0_8, f0_8, c0_9, f0_9⟩ := row10 hrow
     clear hrow
     have hrow := HB1.out
     obtain ⟨c1_0, f1_0, c1_1, f1_1, c1_2, f1_2, c1_3, f1_3, c1_4, f1_4, c1_5, f1_5, c1_6, f1_6, c1_7, f1_7, c1_8, f1_8, c1_9, f1_9⟩ := row10 hrow
     clear hrow
     go_wp2_with fail
     go_wp2_with fail
     refine bodyPost_ret (v := .agg #[.int .i64 10, .string ⟨#[]⟩, .string ⟨#[]⟩, .pointer none, .pointer none, .pointer (some ⟨x2, 0, none⟩), .slice none 0 0, .slice A3 a3.1.length c3, .slice none 0 0, .int .i64 0]) (by simp [results, Tryz.results149, go_sem, c0_0, c0_1, c0_2, c0_3, c0_4, c0_5, c0_6, c0_7, c0_8, c0_9, c1_0, c1_1, c1_2, c1_3, c1_4, c1_5, c1_6, c1_7, c1_8, c1_9]) rfl ?_
     refine setsEnd (S := [X0, X1]) (w := w4) ?_ ?_
     ·
      repeat (refine Keeps.setCell ?_ (by simp) _)
      exact Keeps.refl _ _
     ·
      intro W hk
      have hwk := HKA1.out.size
      have hwk2 := hk.size
      have hx0 := HX.out.1
      have hx1 := HX.out.2
      have hbl := HBL.out
      have hbl1 := HBL1.out
      have hlt1 := HLT1.out
      have nt0 := nt3 HB0
      have nt1 := nt3 HB1
      have hB : ∀ g, (B3) g → w.heap.size < g ∧ g < (w4).heap.size := by
       intro g hg; have h7 := EB3.out g hg; have h8 := HLW3.out; have h9 := HSW.out; exact ⟨by omega, by omega⟩
      have hoff : Off w4 b (B3) [X0, X1] := fun y hy => .inr (by
       simp at hy
       rcases hy with rfl | rfl
       · exact ⟨fun h => by have h7 := EB3.out _ h; have h8 := HLW3.out; omega, nt0⟩
       · exact ⟨fun h => by have h7 := EB3.out _ h; omega, nt1⟩)
      rw [HR.out]
      have hex : SmAt w4 b (B3) (Px.Sm.mk 10 [] [] none none (some a2) [] a3.1 [] 0) [.int .i64 10, .string ⟨#[]⟩, .string ⟨#[]⟩, .pointer none, .pointer none, .pointer (some ⟨x2, 0, none⟩), .slice none 0 0, .slice A3 a3.1.length c3, .slice none 0 0, .int .i64 0] := ⟨_, _, _, _, _, _, rfl, rfl, rfl, E2.out, noArgs, E3.out, SsB.none⟩
      exact ⟨_, rfl, ⟨_, _, rfl, SmAt.keep hk hoff _ _ hex, fun g hg => ⟨by have := (hB g hg).1; omega, by have := (hB g hg).2; omega⟩⟩, HWA1.out.keepHi hk (by first | (simp; done) | (simp; omega)), HKA1.out.hi hk (by first | (simp; done) | (simp; omega))⟩
end
section
set_option maxHeartbeats 4000000
set_option maxRecDepth 100000
open Go.RowKit Go.Shelf
open Lx (Tok Tx)
open Px (Ex Cn Sm)
theorem within_no_S (w : World) (b n o k : Nat) (ts : List Tok) (h : PAt w b n ts o k) (s : Tx) (hy : Px.sees ts s = false) (fv : Value) :
 Calls Tryz.prog 80 #[pp b, .string (strO s), fv] w fun e w' => e = .panicked (died 51) ∧ w = w' := by
 have HS := Hd (sees_any w b n o k ts h s)
 rw [hy] at HS
 have HN := Hd (fun w' => pneed_no w' 51)
 obtain ⟨y, hyy⟩ : ∃ y, y = strO s := ⟨_, rfl⟩
 rw [← hyy] at HS ⊢
 clear h hy hyy
 go_enter Tryz.func80, Tryz.ntmps80
 go_wp2_with fail
 refine (same (HS.out)) ?_
 go_wp2_with fail
 refine (same (HN.out _)) ?_
 go_wp2
 exact ⟨rfl, rfl, rfl⟩
theorem within_deep_S (w : World) (b n o k : Nat) (ts : List Tok) (h : PAt w b n ts o k) (s : Tx) (hy : Px.sees ts s = true) (fv : Value) (ho : 40 ≤ o) (ho2 : o ≤ 1000) :
 Calls Tryz.prog 80 #[pp b, .string (strO s), fv] w fun e w' => e = .panicked (died 52) ∧ w = w' := by
 have HS := Hd (sees_any w b n o k ts h s)
 rw [hy] at HS
 have HN := Hd (fun w' => pneed_yes w' 51)
 have HN2 := Hd (fun w' => pneed_no w' 52)
 have HLT := Hd (show decide ((o : Int) < 40) = false by simp; omega)
 have c2 := h.open.1
 obtain ⟨y, hyy⟩ : ∃ y, y = strO s := ⟨_, rfl⟩
 rw [← hyy] at HS ⊢
 clear h hy hyy ho
 go_enter Tryz.func80, Tryz.ntmps80
 go_wp2_with fail
 refine (same (HS.out)) ?_
 go_wp2_with fail
 refine (same (HN.out _)) ?_
 go_wp2_with fail
 rw [HLT.out]
 refine (same (HN2.out _)) ?_
 go_wp2
 exact ⟨rfl, rfl, rfl⟩
theorem within_stmts (w : World) (b n o k : Nat) (t : Tok) (r : List Tok) (h : PAt w b n (t :: r) o k) (s : Tx) (hy : Px.sees (t :: r) s = true) (ho : o < 40) (lo : Nat) (hlo : lo ≤ w.heap.size) (rr : Px.R (List Sm × Nat))
 (hF : ∀ w1, PAt w1 b n r (o + 1) k → lo ≤ w1.heap.size → Keeps [b] w w1 → Calls Tryz.prog 83 #[pp b] w1 (RP (SsAt lo) Prod.snd w1 b n (o + 1) rr)) :
 Calls Tryz.prog 80 #[pp b, .string (strO s), .func (.func 83) #[pp b] #[]] w (RP (SsAt lo) Prod.snd w b n o rr) := by
 have HS := Hd (sees_any w b n o k (t :: r) h s)
 rw [hy] at HS
 have HN := Hd (fun w' => pneed_yes w' 51)
 have HN2 := Hd (fun w' => pneed_yes w' 52)
 have HT := Hd (take_any w b n o k t r h)
 have HLT := Hd (show decide ((o : Int) < 40) = true by simp; omega)
 have c2 := h.open.1
 obtain ⟨y, hyy⟩ : ∃ y, y = strO s := ⟨_, rfl⟩
 obtain ⟨x, hx⟩ : ∃ x, x = strO t.text := ⟨_, rfl⟩
 rw [← hyy] at HS ⊢
 rw [← hx] at HT
 have HF := Hd hF
 clear h hy hyy hx hF
 go_enter Tryz.func80, Tryz.ntmps80
 go_wp2_with fail
 refine (same (HS.out)) ?_
 go_wp2_with fail
 refine (same (HN.out _)) ?_
 go_wp2_with fail
 try rw [HLT.out]
 refine (same (HN2.out _)) ?_
 go_wp2_with fail
 refine (HT.out).mono ?_
 rintro e w1 ⟨rfl, h1, h2⟩
 have H1 := Hd h1
 have H2 := Hd h2
 obtain ⟨d2, e2, _, _⟩ := h1.open
 clear h1 h2 c2
 go_wp2_with fail
 refine (HF.out _ (H1.out.setOpen (o + 1)) (by have := H2.out.size; simp [World.setCell]; omega) (H2.out.setCell (by simp) _)).mono ?_
 intro e w2 hr
 cases rr with
 | ok a ts =>
  obtain ⟨v, rfl, h3, h4, h5⟩ := hr
  have H3 := Hd h3
  have H4 := Hd h4
  have H5 := Hd h5
  obtain ⟨d3, e3, _, _⟩ := h4.open
  clear h3 h4 h5 d2 e2
  go_wp2_with fail
  go_ret
  exact ⟨v, rfl, H3.out.keepb ((Keeps.refl [b] _).setCell (by simp) _), by simpa using H4.out.setOpen o, ((H2.out.setCell (by simp) _).trans H5.out (fun _ h _ => h)).setCell (by simp) _⟩
 | err z ts =>
  obtain ⟨rfl, h4, h5⟩ := hr
  have H4 := Hd h4
  have H5 := Hd h5
  clear h4 h5 d2 e2
  go_wp2
  exact ⟨rfl, rfl, H4.out, (H2.out.setCell (by simp) _).trans H5.out (fun _ h _ => h)⟩
theorem block_ok (w : World) (b n o k : Nat) (ts : List Tok) (h : PAt w b n ts o k) (hy : Px.sees ts [123] = true) (ho : o < 40) (rr : Px.R (List Sm × Nat))
 (hF : ∀ w1, PAt w1 b n ts.tail (o + 1) k → Calls Tryz.prog 83 #[pp b] w1 (RP (SsAt w1.heap.size) Prod.snd w1 b n (o + 1) rr)) :
 Calls Tryz.prog 178 #[pp b] w (RP (SsAt w.heap.size) Prod.snd w b n o (rr.bind fun p r => Px.want [125] r fun r => .ok p r)) := by
 obtain ⟨t, ht⟩ := tail_of (by simp) hy
 obtain ⟨r, hr⟩ : ∃ r, r = ts.tail := ⟨_, rfl⟩
 rw [← hr] at ht hF
 rw [ht] at h hy
 have HW := Hd (within_stmts w b n o k t r h [123] hy ho w.heap.size (Nat.le_refl _) rr (fun w1 h1 hl _ => (hF w1 h1).mono fun e w' hp => by
  cases rr with
  | ok a ts =>
   obtain ⟨v, q1, ⟨B, q2, q3⟩, q4, q5⟩ := hp
   exact ⟨v, q1, ⟨B, q2, fun g hg => ⟨by have := (q3 g hg).1; omega, (q3 g hg).2⟩⟩, q4, q5⟩
  | err z ts => exact hp))
 have hmf := hmf0
 obtain ⟨R, hR⟩ : ∃ R, R = (rr.bind fun p r => Px.want [125] r fun r => .ok p r) := ⟨_, rfl⟩
 rw [← hR]
 have HR := Hd hR
 clear h hy ho hF ht hr hR
 go_enter Tryz.func178, Tryz.ntmps178
 go_wp2_with fail
 refine (HW.out).mono ?_
 intro e w2 hr
 cases rr with
 | err z ts =>
  obtain ⟨rfl, h4, h5⟩ := hr
  have H4 := Hd h4
  have H5 := Hd h5
  clear h4 h5
  go_wp2
  rw [HR.out]
  exact ⟨rfl, rfl, H4.out, H5.out⟩
 | ok a ts =>
  obtain ⟨v, rfl, h3, h4, h5⟩ := hr
  have H3 := Hd h3
  have H4 := Hd h4
  have H5 := Hd h5
  obtain ⟨A, c, rfl⟩ := h3.form
  clear h3 h4 h5
  have HP := Hd (fun w' (h' : PAt w' b n ts o a.2) => pass_rp w' b n o a.2 ts h' [125] (by simp))
  have hR := HR.out
  simp only [Px.bind_ok] at hR
  unfold Px.want at hR
  obtain ⟨rq, hrq⟩ : ∃ x, x = Px.passR [125] ts := ⟨_, rfl⟩
  rw [← hrq] at HP hR
  have HR := Hd hR
  clear hR hrq
  go_wp2_with fail
  refine (HP.out _ H4.out).mono ?_
  intro e w3 hr
  cases rq with
  | err z r =>
   obtain ⟨rfl, h4, h5⟩ := hr
   have H6 := Hd h4
   have H7 := zV H5 h5
   clear h4 h5
   go_wp2
   rw [HR.out]
   exact ⟨rfl, rfl, H6.out, H7.out⟩
  | ok u r =>
   obtain ⟨v3, rfl, h3, h4, h5⟩ := hr
   obtain rfl : v3 = .tuple #[] := h3
   have H6 := Hd h4
   have H7 := zV H5 h5
   have H8 := Hd (H3.out.keepb h5)
   clear h4 h5
   go_wp2_with fail
   go_ret
   rw [HR.out]
   exact ⟨_, rfl, H8.out, H6.out, H7.out⟩
theorem block_no (w : World) (b n o k : Nat) (ts : List Tok) (h : PAt w b n ts o k) (hy : Px.sees ts [123] = false) :
 Calls Tryz.prog 178 #[pp b] w fun e w' => e = .panicked (died 51) ∧ w = w' := by
 have HW := Hd (fun fv => within_no_S w b n o k ts h [123] hy fv)
 have hmf := hmf0
 clear h hy
 go_enter Tryz.func178, Tryz.ntmps178
 go_wp2_with fail
 refine (same (HW.out _)) ?_
 go_wp2
 exact ⟨rfl, rfl, rfl⟩
theorem block_deep (w : World) (b n o k : Nat) (ts : List Tok) (h : PAt w b n ts o k) (hy : Px.sees ts [123] = true) (ho : 40 ≤ o) (ho2 : o ≤ 1000) :
 Calls Tryz.prog 178 #[pp b] w fun e w' => e = .panicked (died 52) ∧ w = w' := by
 have HW := Hd (fun fv => within_deep_S w b n o k ts h [123] hy fv ho ho2)
 have hmf := hmf0
 clear h hy ho
 go_enter Tryz.func178, Tryz.ntmps178
 go_wp2_with fail
 refine (same (HW.out _)) ?_
 go_wp2
 exact ⟨rfl, rfl, rfl⟩
theorem seesStmt_any (w : World) (b n o k : Nat) (ts : List Tok) (h : PAt w b n ts o k) :
 Calls Tryz.prog 148 #[pp b] w fun e w' => e = .returned (.bool (Px.seesStmt ts)) ∧ w = w' := by
 have HS := Hd (seesName_any w b n o k ts h)
 have HT := Hd (text_any w b n o k ts h 0 (by omega))
 have hq : Px.seesStmt ts = (Px.txt ts 0 == [42] || Px.txt ts 0 == [114, 101, 116, 117, 114, 110] || Px.txt ts 0 == [97, 115, 115, 101, 114, 116] || Px.txt ts 0 == [105, 102] || Px.txt ts 0 == [119, 104, 105, 108, 101] || Px.isName ts) := rfl
 rw [hq]
 have hl := strO_toList (Px.txt ts 0)
 obtain ⟨x, hs⟩ : ∃ x, x = strO (Px.txt ts 0) := ⟨_, rfl⟩
 rw [← hs] at hl HT
 rw [← hl]
 obtain ⟨i, hi⟩ : ∃ i, i = Px.isName ts := ⟨_, rfl⟩
 rw [← hi] at HS ⊢
 clear hl hs hi hq h
 go_enter Tryz.func148, Tryz.ntmps148
 go_wp2_with fail
 refine (same (HT.out)) ?_
 go_wp2_with ((with_reducible refine (HS.out).mono ?_); rintro e w' ⟨rfl, rfl⟩)
 all_goals
  go_ret
  refine ⟨ret_bool ?_, rfl⟩
  first | (exfalso; simp_all; done) | (simp [*]; done)
end
end Go.Proofs.YtbikifibfaaggaaGreatDoor
