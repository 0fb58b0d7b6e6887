import Derived.Test.YtbikifibfaaggaaGreatDoorVPSt
namespace Go.Proofs.YtbikifibfaaggaaGreatDoor
section
set_option maxHeartbeats 4000000
set_option maxRecDepth 100000
open Go.RowKit Go.Shelf
open Lx (Tok Tx)
open Px (Ex Cn Sm)
structure SC (f : Nat) : Prop where
 stmt : ∀ w b n ts o k, PAt w b n ts o k → o ≤ 1000 → 4 * ts.length + 7 ≤ f → Calls Tryz.prog 114 #[pp b] w (RP (SmBAt w.heap.size) Prod.snd w b n o (Px.stmt f o k ts))
 block : ∀ w b n ts o k, PAt w b n ts o k → o ≤ 1000 → 4 * ts.length + 5 ≤ f → Calls Tryz.prog 178 #[pp b] w (RP (SsAt w.heap.size) Prod.snd w b n o (Px.block f o k ts))
 stmts : ∀ w b n ts o k, PAt w b n ts o k → o ≤ 1000 → 4 * ts.length + 8 ≤ f → Calls Tryz.prog 83 #[pp b] w (RP (SsAt w.heap.size) Prod.snd w b n o (Px.stmts f o k [] ts))
theorem stmts_step (f : Nat) (w : World) (b n o k : Nat) (ts : List Tok) (h : PAt w b n ts o k) (ho2 : o ≤ 1000) (hf : 4 * ts.length + 8 ≤ f + 1) (hE : ∀ g, g ≤ f → SC g) :
 Calls Tryz.prog 83 #[pp b] w (RP (SsAt w.heap.size) Prod.snd w b n o (Px.stmts (f + 1) o k [] ts)) := by
 obtain ⟨R, hR⟩ : ∃ R, R = Px.stmts (f + 1) o k [] ts := ⟨_, rfl⟩
 rw [← hR]
 have HR := Hd hR
 have HF := Hd hf
 have HE := Hd hE
 have H0 := Hd h
 have HBL := Hd h.lt
 obtain ⟨iP, hP, hP0, hP1, hP2⟩ := info_parts infoStmt
 clear hR hf hE h
 go_enter Tryz.func83, Tryz.ntmps83
 go_wp2_with fail
 go_loopw [3] (fun lv wr => ∃ (g k' : Nat) (l : List Sm) (r : List Tok) (cs : List Value) (B : Nat → Prop), 4 * r.length + 8 ≤ g ∧ g ≤ f + 1 ∧ l.length + r.length ≤ 5000 ∧ wr.ownsRow w.heap.size 60 10 lv l.length cs ∧ (∀ y, lv.ownBlock = some y → ¬ B y) ∧ SmC wr b B l cs ∧ (∀ y, B y → w.heap.size ≤ y ∧ y < wr.heap.size) ∧ PAt wr b n r o k' ∧ Keeps [b] w wr ∧ Px.stmts g o k' l r = R) (fun _ wr => leftOf wr b)
 case atStart => exact ⟨f + 1, k, [], ts, [], fun _ => False, HF.out, Nat.le_refl _, by simpa using H0.out.1.len, World.ownsRow_nil _ _ _ _, fun y h => id, rfl, fun y h => h.elim, H0.out, Keeps.refl _ _, HR.out.symm⟩
 case round =>
  obtain ⟨g, k', l, r, cs, B, hg, hgf, hll, hown, hnb, hsm, hB, hp, hk, hd⟩ := hrel
  match g, hg, hgf, hd with
  | g + 1, hg, hgf, hd =>
  have HG := Hd hg
  have HGF := Hd hgf
  have HLL := Hd hll
  have HOWN := Hd hown
  have HNB := Hd hnb
  have HSM := Hd hsm
  have HBB := Hd hB
  have HP := Hd hp
  have HK := Hd hk
  obtain ⟨A, c, rfl⟩ := row_slice hown
  unfold Px.stmts at hd
  clear hg hgf hll hown hnb hsm hB hp hk
  by_cases hs : Px.sees r [125] = true
  ·
   rw [if_pos hs] at hd
   have HD := Hd hd
   have HS := Hd (fun w' (h' : PAt w' b n r o k') => sees_any w' b n o k' r h' [125])
   rw [hs] at HS
   clear hs hd
   go_wp2_with fail
   refine (same (HS.out _ HP.out)) ?_
   go_wp2_with fail
   go_ret
   rw [← HD.out]
   have hbl := HBL.out
   exact ⟨_, rfl, ⟨fun y => B y ∨ (Value.slice A l.length c).ownBlock = some y, ⟨cs, owned_mono HOWN.out (by omega), fun y h => .inr h, SmC.wider (fun y h => .inl h) l cs HSM.out⟩, fun y hy => by
    rcases hy with hy | hy
    · exact HBB.out y hy
    ·
     obtain ⟨q1, cur, q2⟩ := rowOf HOWN.out hy
     exact ⟨q1, block_lt q2⟩⟩, HP.out, HK.out⟩
  ·
   have hs' : Px.sees r [125] = false := by simpa using hs
   rw [if_neg hs] at hd
   have HS := Hd (fun w' (h' : PAt w' b n r o k') => sees_any w' b n o k' r h' [125])
   rw [hs'] at HS
   have HU := Hd (fun w' (h' : PAt w' b n r o k') => (HE.out g (by have := HGF.out; omega)).stmt w' b n r o k' h' ho2 (by have := HG.out; omega))
   have hlen := fun aa qq (h : Px.stmt g o k' r = .ok aa qq) => (Px.sm_len g).1 _ _ _ _ _ h
   obtain ⟨rr, hrr⟩ : ∃ x, x = Px.stmt g o k' r := ⟨_, rfl⟩
   rw [← hrr] at HU hlen hd
   have HD := Hd hd
   have HLEN := Hd hlen
   clear hs hs' hlen hrr hd
   go_wp2_with fail
   refine (same (HS.out _ HP.out)) ?_
   go_wp2_with fail
   refine (HU.out _ HP.out).mono ?_
   intro e w4 hr
   cases rr with
   | err z r =>
    obtain ⟨rfl, H4, H5⟩ := zE hr HK
    go_wp2
    rw [← HD.out]
    exact ⟨rfl, rfl, H4.out, H5.out⟩
   | ok a r2 =>
    obtain ⟨v4, rfl, ⟨vs, B1, hv, h3, hB1⟩, h4, h5⟩ := hr
    have HEE := Hd h3
    obtain ⟨kd, sx, sy, qe, qf, qc, Aa, na, ca, At, nt, ct, Al, nl, cl, at_, rfl⟩ := h3.form
    subst hv
    have HP4 := Hd h4
    have HL4 := Hd (HLEN.out a r2 rfl)
    have HK4 := zV HK h5
    have HBB1 := Hd hB1
    have HSZ4 := Hd h5.size
    have HOWN4 := Hd (owned_keep HOWN.out h5 (fun g hg hm => by have := (rowOf HOWN.out hg).1; have := HBL.out; simp at hm; omega))
    have HSM4 := Hd (SmC.keep h5 off_b l cs HSM.out)
    have hR := HD.out
    simp only [Px.bind_ok] at hR
    have HD := Hd hR
    have hl5 : l.length ≤ 100000 := by have := HLL.out; omega
    have hwsz : w.heap.size ≤ w4.heap.size := HK4.out.size
    clear hR h3 h4 h5 hB1
    go_wp2_with (at_builtin; refine wp_app rfl _ _ 24 60 rfl iP (.agg #[.int .i64 0, .string .empty, .string .empty, .pointer none, .pointer none, .pointer none, .slice none 0 0, .slice none 0 0, .slice none 0 0, .int .i64 0]) 10 144 Tryz.underlying24 hP hP0 hP1 hP2 rfl (by decide) (by decide) (.slice A l.length c) l.length w.heap.size cs rfl HOWN4.out 1 [.int .i64 kd, .string sx, .string sy, .pointer qe, .pointer qf, .pointer qc, .slice Aa na ca, .slice At nt ct, .slice Al nl cl, .int .i64 at_] rfl rfl ?qa1 hl5 hwsz ?_)
    case qa1 => intro u hu; simp at hu; rcases hu with rfl | rfl | rfl | rfl | rfl | rfl | rfl | rfl | rfl | rfl <;> rfl
    intro v' w5 hown' hk5 hblk hsz5
    have hown0 := HOWN.out
    have hown4 := HOWN4.out
    have hoff : ∀ (C : Nat → Prop), (∀ y, (Value.slice A l.length c).ownBlock = some y → ¬ C y) → Off w4 b C (Value.slice A l.length c).ownBlock.toList := fun C hC y hy => .inr (by
     have hy' : (Value.slice A l.length c).ownBlock = some y := by simpa using hy
     obtain ⟨_, cur, hcur⟩ := rowOf hown4 hy'
     exact ⟨hC y hy', NotT.of hcur (by decide), NotT.of hcur (by decide), NotT.of hcur (by decide)⟩)
    have hC1 : ∀ y, (Value.slice A l.length c).ownBlock = some y → ¬ B1 y := fun y hy h => by
     obtain ⟨_, cur, hcur⟩ := rowOf hown0 hy
     have := block_lt hcur
     have := (HBB1.out y h).1
     omega
    have HP5 := Hd (HP4.out.keepHi hk5 (fun y hy => by have := (rowOf hown4 (by simpa using hy)).1; have := HBL.out; omega))
    have HK5 := Hd (HK4.out.hi hk5 (fun y hy => (rowOf hown4 (by simpa using hy)).1))
    have HSM5 := Hd (SmC.snoc (SmAt.wider (B' := fun y => B y ∨ B1 y) (fun y h => .inr h) _ _ (SmAt.keep hk5 (hoff B1 hC1) _ _ HEE.out)) l cs (SmC.wider (fun y h => .inl h) l cs (SmC.keep hk5 (hoff B HNB.out) l cs HSM4.out)))
    have hown6 : w5.ownsRow w.heap.size 60 10 v' (l ++ [a.1]).length (cs ++ [.int .i64 kd, .string sx, .string sy, .pointer qe, .pointer qf, .pointer qc, .slice Aa na ca, .slice At nt ct, .slice Al nl cl, .int .i64 at_]) := by
     rw [List.length_append]
     exact hown'
    have HOWN6 := Hd hown6
    have HNB6 := Hd (show ∀ y, v'.ownBlock = some y → ¬ (B y ∨ B1 y) from fun y hy h => by
     rcases hblk with hb | hb
     ·
      rw [hb] at hy
      rcases h with h | h
      · exact HNB.out y hy h
      · exact hC1 y hy h
     ·
      rw [hb] at hy
      obtain rfl : w4.heap.size + 1 = y := by simpa using hy
      rcases h with h | h
      · have := (HBB.out _ h).2; have := HSZ4.out; omega
      · have := (HBB1.out _ h).2; omega)
    have HBB6 := Hd (show ∀ y, (B y ∨ B1 y) → w.heap.size ≤ y ∧ y < w5.heap.size from fun y h => by
     have h7 := HSZ4.out
     rcases h with h | h
     · have := HBB.out y h; exact ⟨this.1, by omega⟩
     · have := HBB1.out y h; have h8 := HK.out.size; exact ⟨by omega, by omega⟩)
    clear hown' hk5 hown6 hblk hoff hC1 hown0 hown4 hl5 hwsz hsz5
    go_wp2_with fail
    go_roundw
    · exact ⟨g, a.2, l ++ [a.1], r2, cs ++ [.int .i64 kd, .string sx, .string sy, .pointer qe, .pointer qf, .pointer qc, .slice Aa na ca, .slice At nt ct, .slice Al nl cl, .int .i64 at_], fun y => B y ∨ B1 y, by have := HL4.out; have := HG.out; omega, by have := HGF.out; omega, by have := HL4.out; have := HLL.out; simp; omega, HOWN6.out, HNB6.out, HSM5.out, HBB6.out, HP5.out, HK5.out, HD.out⟩
    ·
     rw [HP5.out.leftOf, HP.out.leftOf]
     have := HL4.out; omega
theorem rp_stay {α : Type} {At : World → Nat → α → Value → Prop} {kk : α → Nat} {w : World} {b n o k : Nat} {ts : List Tok} (h : PAt w b n ts o k) (z : Nat) (e : Ending) (w' : World) (he : e = .panicked (died (z : Int)) ∧ w = w') : RP At kk w b n o (.err z ts : Px.R α) e w' := by
 obtain ⟨h1, h2⟩ := he
 subst h2
 exact ⟨h1, ⟨_, _, h⟩, Keeps.refl _ _⟩
theorem sc : ∀ f, SC f := fun f => by
 induction f using Nat.strongRecOn with
 | _ f ih =>
  match f, ih with
  | 0, _ => exact ⟨fun w b n ts o k h ho hf => by omega, fun w b n ts o k h ho hf => by omega, fun w b n ts o k h ho hf => by omega⟩
  | f + 1, ih =>
   have hle : ∀ g, g ≤ f → SC g := fun g hg => ih g (by omega)
   have hb : ∀ {x : Bool}, ¬ x = true → x = false := fun {x} h => by simpa using h
   refine ⟨fun w b n ts o k h ho hf => ?_, fun w b n ts o k h ho hf => ?_, fun w b n ts o k h ho hf => stmts_step f w b n o k ts h ho hf hle⟩
   ·
    unfold Px.stmt
    by_cases hy : Px.seesStmt ts = true
    ·
     rw [if_pos hy]
     by_cases hk : 200 ≤ k
     · rw [if_pos hk]; exact stmt_many w b n o k ts h hy hk
     ·
      rw [if_neg hk]
      have hblk : ∀ k r a r', Px.block f o k r = .ok a r' → r'.length < r.length := fun k r a r' h => (Px.sm_len f).2.1 _ _ _ _ _ h
      have hbk : ∀ w' r k', PAt w' b n r o k' → r.length < ts.length → Calls Tryz.prog 178 #[pp b] w' (RP (SsAt w'.heap.size) Prod.snd w' b n o (Px.block f o k' r)) := fun w' r k' h' hl => (hle f (Nat.le_refl _)).block w' b n r o k' h' ho (by omega)
      by_cases h1 : Px.sees ts [105, 102] = true
      ·
       rw [if_pos h1]
       exact stmt_if w b n o k ts h hy (by omega) h1 _ (fun w1 h' => branch_any w1 b n o (k + 1) ts f h' ho (by omega) (fun k r => Px.block f o k r) hblk hbk)
      ·
       rw [if_neg h1]
       by_cases h2 : Px.sees ts [119, 104, 105, 108, 101] = true
       ·
        rw [if_pos h2]
        exact stmt_while w b n o k ts h hy (by omega) (hb h1) h2 _ (fun w1 h' => loop_any w1 b n o (k + 1) ts f h' ho (by omega) (fun k r => Px.block f o k r) hblk hbk)
       ·
        rw [if_neg h2]
        exact stmt_simple w b n o k ts h hy (by omega) (hb h1) (hb h2) _ (fun w1 h' => simple_any w1 b n o (k + 1) ts f h' ho (by omega))
    · rw [if_neg hy]; exact stmt_no w b n o k ts h (hb hy)
   ·
    unfold Px.block
    by_cases hy : Px.sees ts [123] = true
    ·
     rw [if_pos hy]
     by_cases hoo : 40 ≤ o
     · rw [if_pos hoo]; exact (block_deep w b n o k ts h hy hoo ho).mono fun e w' he => rp_stay h 52 e w' he
     ·
      rw [if_neg hoo]
      have hl := Px.sees_len (by simp) hy
      exact block_ok w b n o k ts h hy (by omega) _ (fun w1 h' => (hle f (Nat.le_refl _)).stmts w1 b n ts.tail (o + 1) k h' (by omega) (by simp; omega))
    · rw [if_neg hy]; exact (block_no w b n o k ts h (hb hy)).mono fun e w' he => rp_stay h 51 e w' he
theorem stmts_any (w : World) (b n o k : Nat) (ts : List Tok) (f : Nat) (h : PAt w b n ts o k) (ho : o ≤ 1000) (hf : 4 * ts.length + 8 ≤ f) :
 Calls Tryz.prog 83 #[pp b] w (RP (SsAt w.heap.size) Prod.snd w b n o (Px.stmts f o k [] ts)) := (sc f).stmts w b n ts o k h ho hf
end
section
set_option maxHeartbeats 4000000
set_option maxRecDepth 100000
open Go.RowKit Go.Shelf
open Lx (Tok Tx)
open Px (Ex Cn Sm Vr)
def varCells (l : List Vr) : List Value := l.flatMap fun p => [.string (strO p.1), .bool p.2]
theorem varCells_snoc (l : List Vr) (p : Vr) : varCells (l ++ [p]) = varCells l ++ [.string (strO p.1), .bool p.2] := by simp [varCells]
def VarsAt (w : World) (b : Nat) (l : List Vr) (v : Value) : Prop := w.ownsRow (b + 1) 123 2 v l.length (varCells l)
def VarAt (_ : World) (_ : Nat) (p : Vr) (v : Value) : Prop := v = .agg #[.string (strO p.1), .bool p.2]
theorem decl_rp (w : World) (b n o k : Nat) (ts : List Tok) (h : PAt w b n ts o k) (c m : Nat) (hc : c ≤ 100000) (hm : m ≤ 1000) :
 Calls Tryz.prog 87 #[pp b, .int .i64 (c : Int), .int .i64 (m : Int)] w (RP StrAt (fun _ => k) w b n o (Px.declR c m ts)) := by
 unfold Px.declR
 by_cases hy : Px.isName ts = true
 ·
  rw [if_pos hy]
  by_cases hl : c < m
  ·
   rw [if_pos hl]
   exact (declared_yes w b n o k ts h hy c m hl hm).mono fun e w' ⟨h1, h2, h3⟩ => ⟨_, h1, rfl, h2, h3⟩
  ·
   rw [if_neg hl]
   exact (declared_many w b n o k ts h hy c m (by omega) hc).mono fun e w' he => rp_stay h 53 e w' he
 ·
  rw [if_neg hy]
  exact (declared_no w b n o k ts h (by simpa using hy) c m).mono fun e w' he => rp_stay h 51 e w' he
theorem param_yes (w : World) (b n o k : Nat) (ts : List Tok) (f : Nat) (h : PAt w b n ts o k) (ho2 : o ≤ 1000) (hf : 4 * ts.length + 6 ≤ f) (c : Nat) (hcc : c ≤ 100000) (hy : Px.sees ts [42] = true) :
 Calls Tryz.prog 79 #[pp b, .int .i64 (c : Int)] w (RP VarAt (fun _ => k) w b n o ((Px.declR c 6 ts.tail).bind fun s r => .ok (s, true) r)) := by
 obtain ⟨R, hR⟩ : ∃ R, R = ((Px.declR c 6 ts.tail).bind fun s r => .ok (s, true) r) := ⟨_, rfl⟩
 rw [← hR]
 have HR := Hd hR
 have HF := Hd hf
 have H0 := Hd h
 have HK0 := Hd (Keeps.refl [b] w)
 have hbl := h.lt
 have HBL := Hd hbl
 have hmf := hmf0
 have H0 := Hd h
 have HK0 := Hd (Keeps.refl [b] w)
 have HB0 := Hd (show (w.alloc (.cells #[.string .empty, .bool false] 123)).heap[w.heap.size]? = some (.cells #[.string .empty, .bool false] 123 (0, 0)) from heap_alloc_new _ _)
 have H0 := Hd (H0.out.keep ((Keeps.refl [] _).alloc (.cells #[.string .empty, .bool false] 123)))
 have HK0 := Hd (HK0.out.alloc (.cells #[.string .empty, .bool false] 123))
 have HC := Hd hcc
 have HP0 := Hd (fun w' (h' : PAt w' b n ts o k) => passes_yes w' b n o k ts h' [42] (by simp) hy)
 have HLT := Hd (show ts.tail.length < ts.length by have := Px.sees_len (by simp) hy; simp; omega)
 clear h hf hR hbl hcc hy
 go_enter Tryz.func79, Tryz.ntmps79
 go_wp2_with fail
 refine (HP0.out _ H0.out).mono ?_
 rintro e w0 ⟨rfl, h1, h2⟩
 have H0 := Hd h1
 have HK0 := zV HK0 h2
 have HB0 := zL HB0 h2
 clear h1 h2
 have HC0 := Hd (fun w' (h' : PAt w' b n (ts.tail) o k) => decl_rp w' b n o k (ts.tail) h' c 6 (by have := HC.out; omega) (by omega))
 have hlen := fun a r (h : Px.declR c 6 (ts.tail) = .ok a r) => Px.declR_len h
 have hR := HR.out
 obtain ⟨rr, hrr⟩ : ∃ x, x = Px.declR c 6 (ts.tail) := ⟨_, rfl⟩
 rw [← hrr] at HC0 hlen hR
 have HR := Hd hR
 have HLEN := Hd hlen
 clear hR hlen hrr
 go_wp2_with fail
 refine (HC0.out _ H0.out).mono ?_
 intro e w1 hr
 cases rr with
 | err z r =>
  obtain ⟨rfl, H4, H5⟩ := zE hr HK0
  go_wp2
  rw [HR.out]
  exact ⟨rfl, rfl, H4.out, H5.out⟩
 | ok a1 r1 =>
  obtain ⟨v1, rfl, h3, h4, h5⟩ := hr
  have HL1 := Hd (HLEN.out a1 r1 rfl)
  have HR := zR1 HR
  have HB0Q := HB0
  obtain rfl : v1 = .string (strO a1) := h3
  have HW1 := Hd h4
  have HKW1 := zV HK0 h5
  have HSTEP1 := Hd h5
  have HB0 := zL HB0 h5
  clear h4 h5
  have hrow := HB0.out
  obtain ⟨c0_0, f0_0⟩ := rowi hrow 0
  obtain ⟨c0_1, f0_1⟩ := rowi hrow 1
  clear hrow
  go_wp2_with fail
  refine bodyPost_ret (v := .agg #[.string (strO a1), .bool true]) (by simp [results, Tryz.results79, go_sem, c0_0, c0_1]) rfl ?_
  refine setsEnd (S := [w.heap.size]) (w := w1) ?_ ?_
  ·
   repeat (refine Keeps.setCell ?_ (by simp) _)
   exact Keeps.refl _ _
  ·
   intro W hk
   rw [HR.out]
   exact ⟨_, rfl, rfl, HW1.out.keepHi hk (by have := HBL.out; simpa using this), HKW1.out.hi hk (by simp)⟩
theorem param_no (w : World) (b n o k : Nat) (ts : List Tok) (f : Nat) (h : PAt w b n ts o k) (ho2 : o ≤ 1000) (hf : 4 * ts.length + 6 ≤ f) (c : Nat) (hcc : c ≤ 100000) (hy : Px.sees ts [42] = false) :
 Calls Tryz.prog 79 #[pp b, .int .i64 (c : Int)] w (RP VarAt (fun _ => k) w b n o ((Px.declR c 6 ts).bind fun s r => .ok (s, false) r)) := by
 obtain ⟨R, hR⟩ : ∃ R, R = ((Px.declR c 6 ts).bind fun s r => .ok (s, false) r) := ⟨_, rfl⟩
 rw [← hR]
 have HR := Hd hR
 have HF := Hd hf
 have H0 := Hd h
 have HK0 := Hd (Keeps.refl [b] w)
 have hbl := h.lt
 have HBL := Hd hbl
 have hmf := hmf0
 have H0 := Hd h
 have HK0 := Hd (Keeps.refl [b] w)
 have HB0 := Hd (show (w.alloc (.cells #[.string .empty, .bool false] 123)).heap[w.heap.size]? = some (.cells #[.string .empty, .bool false] 123 (0, 0)) from heap_alloc_new _ _)
 have H0 := Hd (H0.out.keep ((Keeps.refl [] _).alloc (.cells #[.string .empty, .bool false] 123)))
 have HK0 := Hd (HK0.out.alloc (.cells #[.string .empty, .bool false] 123))
 have HC := Hd hcc
 have HP0 := Hd (fun w' (h' : PAt w' b n ts o k) => passes_no w' b n o k ts h' [42] hy)
 clear h hf hR hbl hcc hy
 go_enter Tryz.func79, Tryz.ntmps79
 go_wp2_with fail
 refine (same (HP0.out _ H0.out)) ?_
 have HC0 := Hd (fun w' (h' : PAt w' b n (ts) o k) => decl_rp w' b n o k (ts) h' c 6 (by have := HC.out; omega) (by omega))
 have hlen := fun a r (h : Px.declR c 6 ts = .ok a r) => Px.declR_len h
 have hR := HR.out
 obtain ⟨rr, hrr⟩ : ∃ x, x = Px.declR c 6 ts := ⟨_, rfl⟩
 rw [← hrr] at HC0 hlen hR
 have HR := Hd hR
 have HLEN := Hd hlen
 clear hR hlen hrr
 go_wp2_with fail
 refine (HC0.out _ H0.out).mono ?_
 intro e w1 hr
 cases rr with
 | err z r =>
  obtain ⟨rfl, H4, H5⟩ := zE hr HK0
  go_wp2
  rw [HR.out]
  exact ⟨rfl, rfl, H4.out, H5.out⟩
 | ok a1 r1 =>
  obtain ⟨v1, rfl, h3, h4, h5⟩ := hr
  have HL1 := Hd (HLEN.out a1 r1 rfl)
  have HR := zR1 HR
  have HB0Q := HB0
  obtain rfl : v1 = .string (strO a1) := h3
  have HW1 := Hd h4
  have HKW1 := zV HK0 h5
  have HSTEP1 := Hd h5
  have HB0 := zL HB0 h5
  clear h4 h5
  have hrow := HB0.out
  obtain ⟨c0_0, f0_0⟩ := rowi hrow 0
  obtain ⟨c0_1, f0_1⟩ := rowi hrow 1
  clear hrow
  go_wp2_with fail
  refine bodyPost_ret (v := .agg #[.string (strO a1), .bool false]) (by simp [results, Tryz.results79, go_sem, c0_0, c0_1]) rfl ?_
  refine setsEnd (S := [w.heap.size]) (w := w1) ?_ ?_
  ·
   repeat (refine Keeps.setCell ?_ (by simp) _)
   exact Keeps.refl _ _
  ·
   intro W hk
   rw [HR.out]
   exact ⟨_, rfl, rfl, HW1.out.keepHi hk (by have := HBL.out; simpa using this), HKW1.out.hi hk (by simp)⟩
theorem param_any (w : World) (b n o k : Nat) (ts : List Tok) (h : PAt w b n ts o k) (ho2 : o ≤ 1000) (c : Nat) (hc : c ≤ 100000) :
 Calls Tryz.prog 79 #[pp b, .int .i64 (c : Int)] w (RP VarAt (fun _ => k) w b n o (Px.param c ts)) := by
 unfold Px.param
 by_cases hy : Px.sees ts [42] = true
 · rw [if_pos hy]; exact param_yes w b n o k ts (4 * ts.length + 6) h ho2 (Nat.le_refl _) c hc hy
 · rw [if_neg hy]; exact param_no w b n o k ts (4 * ts.length + 6) h ho2 (Nat.le_refl _) c hc (by simpa using hy)
theorem params_any (w : World) (b n o k : Nat) (ts : List Tok) (f : Nat) (h : PAt w b n ts o k) (ho2 : o ≤ 1000) (hf : 4 * ts.length + 6 ≤ f) :
 Calls Tryz.prog 78 #[pp b, .func (.func 79) #[pp b] #[]] w (RP VarsAt (fun _ => k) w b n o (Px.params f ts)) := by
 obtain ⟨R, hR⟩ : ∃ R, R = Px.params f ts := ⟨_, rfl⟩
 rw [← hR]
 unfold Px.params Px.want at hR
 have HF := Hd hf
 have HBL := Hd h.lt
 have HLN := Hd h.1.len
 have HC := Hd (pass_rp w b n o k ts h [40] (by simp))
 have hlen := fun a r (h : Px.passR [40] ts = .ok a r) => Px.passR_len (by simp) h
 obtain ⟨rr, hrr⟩ : ∃ x, x = Px.passR [40] ts := ⟨_, rfl⟩
 rw [← hrr] at HC hlen hR
 have HR := Hd hR
 have HLEN := Hd hlen
 obtain ⟨iP, hP, hP0, hP1, hP2⟩ := info_parts infoVar
 clear hR hlen hrr h hf
 go_enter Tryz.func78, Tryz.ntmps78
 go_wp2_with fail
 refine (HC.out).mono ?_
 intro e w1 hr
 cases rr with
 | err z r =>
  obtain ⟨rfl, h4, h5⟩ := hr
  have H4 := Hd h4
  have H5 := Hd h5
  clear h4 h5
  go_wp2
  rw [HR.out]
  exact ⟨rfl, rfl, H4.out, H5.out⟩
 | ok a1 r1 =>
  obtain ⟨v1, rfl, h3, h4, h5⟩ := hr
  obtain rfl : v1 = .tuple #[] := h3
  have HL1 := Hd (HLEN.out a1 r1 rfl)
  have hR := HR.out
  simp only [Px.bind_ok] at hR
  have HR := Hd hR
  have HW1 := Hd h4
  have HK1 := Hd h5
  clear hR h4 h5
  go_wp2_with fail
  go_loopw [5] (fun lv wr => ∃ (g : Nat) (l : List Vr) (r : List Tok), r.length + 1 ≤ g ∧ r.length < ts.length ∧ l.length + r.length ≤ 5000 ∧ wr.ownsRow w.heap.size 123 2 lv l.length (varCells l) ∧ PAt wr b n r o k ∧ Keeps [b] w wr ∧ Px.paramsL g l r = R) (fun _ wr => leftOf wr b)
  case atStart => exact ⟨f, [], r1, by have := HF.out; have := HL1.out; omega, HL1.out, by have := HW1.out.1.len; simpa using this, World.ownsRow_nil _ _ _ _, HW1.out, HK1.out, HR.out.symm⟩
  case round =>
   obtain ⟨g, l, r, hg, hrl, hll, hown, hp, hk, hd⟩ := hrel
   match g, hg with
   | g + 1, hg =>
   have HG := Hd hg
   have HRL := Hd hrl
   have HLL := Hd hll
   have HOWN := Hd hown
   have HP := Hd hp
   have HK := Hd hk
   obtain ⟨A, c, rfl⟩ := row_slice hown
   unfold Px.paramsL at hd
   clear hg hrl hll hown hp hk
   by_cases hs : Px.sees r [41] = true
   ·
    rw [if_pos hs] at hd
    have HD := Hd hd
    have HS := Hd (fun w' (h' : PAt w' b n r o k) => sees_any w' b n o k r h' [41])
    rw [hs] at HS
    have HY := Hd (fun w' (h' : PAt w' b n r o k) => pass_yes w' b n o k r h' [41] (by simp) hs)
    clear hs hd
    go_wp2_with fail
    refine (same (HS.out _ HP.out)) ?_
    go_wp2_with fail
    refine (HY.out _ HP.out).mono ?_
    rintro e w3 ⟨rfl, h6, h7⟩
    have H6 := Hd h6
    have H7 := Hd h7
    clear h6 h7
    go_wp2_with fail
    go_ret
    rw [← HD.out]
    have hbl := HBL.out
    exact ⟨_, rfl, owned_mono (owned_keep HOWN.out H7.out (fun g hg hm => by have := (rowOf HOWN.out hg).1; simp at hm; omega)) (by omega), H6.out, HK.out.trans H7.out (fun _ h _ => h)⟩
   ·
    have hs' : Px.sees r [41] = false := by simpa using hs
    rw [if_neg hs] at hd
    have HS := Hd (fun w' (h' : PAt w' b n r o k) => sees_any w' b n o k r h' [41])
    rw [hs'] at HS
    clear hs hs'
    by_cases hl0 : l.length = 0
    ·
     rw [if_pos hl0] at hd
     obtain rfl : l = [] := List.eq_nil_of_length_eq_zero hl0
     simp only [List.length_nil] at hd
     have HD := Hd hd
     clear hd hl0
     have HU := Hd (fun w' (h' : PAt w' b n (r) o k) => param_any w' b n o k (r) h' ho2 0 (by omega))
     have hlen := fun aa qq (h : Px.param 0 (r) = .ok aa qq) => Px.param_len h
     have hR := HD.out
     obtain ⟨rr, hrr⟩ : ∃ x, x = Px.param 0 (r) := ⟨_, rfl⟩
     rw [← hrr] at HU hlen hR
     have HD := Hd hR
     have HLEN := Hd hlen
     clear hR hlen hrr
     go_wp2_with fail
     refine (same (HS.out _ HP.out)) ?_
     go_wp2_with fail
     refine (HU.out _ HP.out).mono ?_
     intro e w4 hr
     cases rr with
     | err z r =>
      obtain ⟨rfl, H4, H5⟩ := zE hr HK
      go_wp2
      rw [← HD.out]
      exact ⟨rfl, rfl, H4.out, H5.out⟩
     | ok e1 r2 =>
      obtain ⟨_, rfl, rfl, h4, h5⟩ := hr
      have HP4 := Hd h4
      have HL4 := Hd (HLEN.out e1 r2 rfl)
      have HK4 := zV HK h5
      have HOWN4 := Hd (owned_keep HOWN.out h5 (fun g hg hm => by have := (rowOf HOWN.out hg).1; have := HBL.out; simp at hm; omega))
      have hR := HD.out
      simp only [Px.bind_ok] at hR
      have HD := Hd hR
      have hl5 : 0 ≤ 100000 := by omega
      have hwsz : w.heap.size ≤ w4.heap.size := HK4.out.size
      clear hR h4 h5
      go_wp2_with (at_builtin; refine wp_app rfl _ _ 23 123 rfl iP (.agg #[.string .empty, .bool false]) 2 24 Tryz.underlying23 hP hP0 hP1 hP2 rfl (by decide) (by decide) (.slice A 0 c) 0 w.heap.size (varCells []) rfl HOWN4.out 1 [.string (strO e1.1), .bool e1.2] rfl rfl ?qa1 hl5 hwsz ?_)
      case qa1 => intro u hu; simp at hu; rcases hu with rfl | rfl <;> rfl
      intro v' w5 hown' hk5 _ hsz5
      have HP5 := Hd (HP4.out.keepHi hk5 (fun y hy => by have := (rowOf HOWN4.out (by simpa using hy)).1; have := HBL.out; omega))
      have HK5 := Hd (HK4.out.hi hk5 (fun y hy => (rowOf HOWN4.out (by simpa using hy)).1))
      have hown6 : w5.ownsRow w.heap.size 123 2 v' (([] : List Vr) ++ [e1]).length (varCells (([] : List Vr) ++ [e1])) := by
       rw [varCells_snoc, List.length_append]
       exact hown'
      have HOWN6 := Hd hown6
      clear hown' hk5 hown6 hl5 hwsz
      go_wp2_with fail
      go_roundw
      · exact ⟨g, ([] : List Vr) ++ [e1], r2, by have := HL4.out; have := HG.out;  omega, by have := HL4.out; have := HRL.out;  omega, by have := HL4.out; have := HLL.out; simp at this ⊢; omega, HOWN6.out, HP5.out, HK5.out, HD.out⟩
      ·
       rw [HP5.out.leftOf, HP.out.leftOf]
       have := HL4.out;  omega
    ·
     rw [if_neg hl0] at hd
     have hc0 : decide ((0 : Int) < ((l.length : Nat) : Int)) = true := decide_eq_true (by omega)
     have HC2 := Hd (fun w' (h' : PAt w' b n r o k) => pass_rp w' b n o k r h' [44] (by simp))
     have hlen := fun a r3 (h : Px.passR [44] r = .ok a r3) => Px.passR_len (by simp) h
     obtain ⟨rr0, hrr⟩ : ∃ x, x = Px.passR [44] r := ⟨_, rfl⟩
     unfold Px.want at hd
     rw [← hrr] at HC2 hlen hd
     have HD := Hd hd
     have Hl.length0 := Hd hlen
     clear hd hlen hrr
     go_wp2_with fail
     refine (same (HS.out _ HP.out)) ?_
     go_wp2_with fail
     refine (HC2.out _ HP.out).mono ?_
     intro e w3 hr
     cases rr0 with
     | err z r =>
      obtain ⟨rfl, H4, H5⟩ := zE hr HK
      go_wp2
      rw [← HD.out]
      exact ⟨rfl, rfl, H4.out, H5.out⟩
     | ok a3 r3 =>
      obtain ⟨v3, rfl, h3, h4, h5⟩ := hr
      obtain rfl : v3 = .tuple #[] := h3
      have HL3 := Hd (Hl.length0.out a3 r3 rfl)
      have hR := HD.out
      simp only [Px.bind_ok] at hR
      have HD := Hd hR
      have HP3 := Hd h4
      have HK3 := zV HK h5
      have HOWN3 := Hd (owned_keep HOWN.out h5 (fun g hg hm => by have := (rowOf HOWN.out hg).1; have := HBL.out; simp at hm; omega))
      clear hR h4 h5
      have HU := Hd (fun w' (h' : PAt w' b n (r3) o k) => param_any w' b n o k (r3) h' ho2 l.length (by have := HLL.out; omega))
      have hlen := fun aa qq (h : Px.param l.length (r3) = .ok aa qq) => Px.param_len h
      have hR := HD.out
      obtain ⟨rr, hrr⟩ : ∃ x, x = Px.param l.length (r3) := ⟨_, rfl⟩
      rw [← hrr] at HU hlen hR
      have HD := Hd hR
      have Hl.length := Hd hlen
      clear hR hlen hrr
      go_wp2_with fail
      refine (HU.out _ HP3.out).mono ?_
      intro e w4 hr
      cases rr with
      | err z r =>
       obtain ⟨rfl, H4, H5⟩ := zE hr HK3
       go_wp2
       rw [← HD.out]
       exact ⟨rfl, rfl, H4.out, H5.out⟩
      | ok e1 r2 =>
       obtain ⟨_, rfl, rfl, h4, h5⟩ := hr
       have HP4 := Hd h4
       have HL4 := Hd (Hl.length.out e1 r2 rfl)
       have HK4 := zV HK3 h5
       have HOWN4 := Hd (owned_keep HOWN3.out h5 (fun g hg hm => by have := (rowOf HOWN3.out hg).1; have := HBL.out; simp at hm; omega))
       have hR := HD.out
       simp only [Px.bind_ok] at hR
       have HD := Hd hR
       have hl5 : l.length ≤ 100000 := by have := HLL.out; omega
       have hwsz : w.heap.size ≤ w4.heap.size := HK4.out.size
       clear hR h4 h5
       go_wp2_with (at_builtin; refine wp_app rfl _ _ 23 123 rfl iP (.agg #[.string .empty, .bool false]) 2 24 Tryz.underlying23 hP hP0 hP1 hP2 rfl (by decide) (by decide) (.slice A l.length c) l.length w.heap.size (varCells l) rfl HOWN4.out 1 [.string (strO e1.1), .bool e1.2] rfl rfl ?qa1 hl5 hwsz ?_)
       case qa1 => intro u hu; simp at hu; rcases hu with rfl | rfl <;> rfl
       intro v' w5 hown' hk5 _ hsz5
       have HP5 := Hd (HP4.out.keepHi hk5 (fun y hy => by have := (rowOf HOWN4.out (by simpa using hy)).1; have := HBL.out; omega))
       have HK5 := Hd (HK4.out.hi hk5 (fun y hy => (rowOf HOWN4.out (by simpa using hy)).1))
       have hown6 : w5.ownsRow w.heap.size 123 2 v' (l ++ [e1]).length (varCells (l ++ [e1])) := by
        rw [varCells_snoc, List.length_append]
        exact hown'
       have HOWN6 := Hd hown6
       clear hown' hk5 hown6 hl5 hwsz
       go_wp2_with fail
       go_roundw
       · exact ⟨g, l ++ [e1], r2, by have := HL4.out; have := HG.out; have := HL3.out; omega, by have := HL4.out; have := HRL.out; have := HL3.out; omega, by have := HL4.out; have := HLL.out; have := HL3.out; simp; omega, HOWN6.out, HP5.out, HK5.out, HD.out⟩
       ·
        rw [HP5.out.leftOf, HP.out.leftOf]
        have := HL4.out; have := HL3.out; omega
end
section
set_option maxHeartbeats 4000000
set_option maxRecDepth 100000
open Go.RowKit Go.Shelf
open Lx (Tok Tx)
open Px (Ex Cn Sm Vr)
theorem locals_any (w : World) (b n o k : Nat) (ts : List Tok) (f : Nat) (h : PAt w b n ts o k) (ho2 : o ≤ 1000) (hf : ts.length + 1 ≤ f) :
 Calls Tryz.prog 82 #[pp b] w (RP VarsAt (fun _ => k) w b n o (Px.localsL f [] ts)) := by
 obtain ⟨R, hR⟩ : ∃ R, R = Px.localsL f [] ts := ⟨_, rfl⟩
 rw [← hR]
 have HR := Hd hR
 have HF := Hd hf
 have H0 := Hd h
 have HBL := Hd h.lt
 obtain ⟨iP, hP, hP0, hP1, hP2⟩ := info_parts infoVar
 clear hR hf h
 go_enter Tryz.func82, Tryz.ntmps82
 go_wp2_with fail
 go_loopw [3] (fun lv wr => ∃ (g : Nat) (l : List Vr) (r : List Tok), r.length + 1 ≤ g ∧ l.length + r.length ≤ 5000 ∧ wr.ownsRow w.heap.size 123 2 lv l.length (varCells l) ∧ PAt wr b n r o k ∧ Keeps [b] w wr ∧ Px.localsL g l r = R) (fun _ wr => leftOf wr b)
 case atStart => exact ⟨f, [], ts, HF.out, by simpa using H0.out.1.len, World.ownsRow_nil _ _ _ _, H0.out, Keeps.refl _ _, HR.out.symm⟩
 case round =>
  obtain ⟨g, l, r, hg, hll, hown, hp, hk, hd⟩ := hrel
  match g, hg, hd with
  | g + 1, hg, hd =>
  have HG := Hd hg
  have HLL := Hd hll
  have HOWN := Hd hown
  have HP := Hd hp
  have HK := Hd hk
  obtain ⟨A, c, rfl⟩ := row_slice hown
  unfold Px.localsL at hd
  clear hg hll hown hp hk
  have HV := Hd (fun w' (h' : PAt w' b n r o k) => sees_any w' b n o k r h' [118, 97, 114])
  have HPT := Hd (fun w' (h' : PAt w' b n r o k) => sees_any w' b n o k r h' [112, 116, 114])
  by_cases hv : Px.sees r [118, 97, 114] = true
  ·
   rw [hv] at HV
   obtain ⟨t, r1, rfl, htx⟩ := sees_cons (by simp) hv
   have hptr : Px.sees (t :: r1) [112, 116, 114] = false := sees_not htx (by simp)
   rw [hptr] at hd
   rw [if_pos (by rw [hv]; rfl)] at hd
   have hq : ((strO t.text).toList == [112, 116, 114]) = false := by rw [strO_toList, htx]; rfl
   simp only [List.tail_cons] at hd
   have HT := Hd (take_any wr b n o k t r1 HP.out)
   obtain ⟨x, hx⟩ : ∃ x, x = strO t.text := ⟨_, rfl⟩
   rw [← hx] at HT hq
   have HU := Hd (fun w' (h' : PAt w' b n r1 o k) => decl_rp w' b n o k r1 h' l.length 20 (by have := HLL.out; simp at this; omega) (by omega))
   have hlen := fun aa qq (h : Px.declR l.length 20 r1 = .ok aa qq) => Px.declR_len h
   obtain ⟨rr, hrr⟩ : ∃ x, x = Px.declR l.length 20 r1 := ⟨_, rfl⟩
   rw [← hrr] at HU hlen hd
   have HD := Hd hd
   have HLEN := Hd hlen
   clear hd hlen hrr hx htx hv hptr
   go_wp2_with fail
   refine (same (HV.out _ HP.out)) ?_
   go_wp2_with fail
   refine (HT.out).mono ?_
   rintro e w2 ⟨rfl, h1, h2⟩
   have HP2 := Hd h1
   have HK2 := zV HK h2
   have HOWN2 := Hd (owned_keep HOWN.out h2 (fun g hg hm => by have := (rowOf HOWN.out hg).1; have := HBL.out; simp at hm; omega))
   clear h1 h2
   go_wp2_with fail
   refine (HU.out _ HP2.out).mono ?_
   intro e w4 hr
   cases rr with
   | err z r =>
    obtain ⟨rfl, H4, H5⟩ := zE hr HK2
    go_wp2
    rw [← HD.out]
    exact ⟨rfl, rfl, H4.out, H5.out⟩
   | ok s1 r2 =>
    obtain ⟨_, rfl, rfl, h4, h5⟩ := hr
    have HP4 := Hd h4
    have HK4 := zV HK2 h5
    have HL4 := Hd (HLEN.out s1 r2 rfl)
    have HOWN4 := Hd (owned_keep HOWN2.out h5 (fun g hg hm => by have := (rowOf HOWN2.out hg).1; have := HBL.out; simp at hm; omega))
    have hR := HD.out
    simp only [Px.bind_ok] at hR
    unfold Px.want at hR
    have HPS := Hd (fun w' (h' : PAt w' b n r2 o k) => pass_rp w' b n o k r2 h' [59] (by simp))
    have hlen := fun aa qq (h : Px.passR [59] r2 = .ok aa qq) => Px.passR_len (by simp) h
    obtain ⟨rq, hrq⟩ : ∃ x, x = Px.passR [59] r2 := ⟨_, rfl⟩
    rw [← hrq] at HPS hlen hR
    have HD := Hd hR
    have HLEN := Hd hlen
    have hl5 : l.length ≤ 100000 := by have := HLL.out; omega
    have hwsz : w.heap.size ≤ w4.heap.size := HK4.out.size
    clear hR hlen hrq h4 h5
    go_wp2_with (at_builtin; refine wp_app rfl _ _ 23 123 rfl iP (.agg #[.string .empty, .bool false]) 2 24 Tryz.underlying23 hP hP0 hP1 hP2 rfl (by decide) (by decide) (.slice A l.length c) l.length w.heap.size (varCells l) rfl HOWN4.out 1 [.string (strO s1), .bool false] rfl rfl ?qa1 hl5 hwsz ?_)
    case qa1 => intro u hu; simp at hu; rcases hu with rfl | rfl <;> rfl
    intro v' w5 hown' hk5 _ hsz5
    have HP5 := Hd (HP4.out.keepHi hk5 (fun y hy => by have := (rowOf HOWN4.out (by simpa using hy)).1; have := HBL.out; omega))
    have HK5 := Hd (HK4.out.hi hk5 (fun y hy => (rowOf HOWN4.out (by simpa using hy)).1))
    have hown6 : w5.ownsRow w.heap.size 123 2 v' (l ++ [(s1, false)]).length (varCells (l ++ [(s1, false)])) := by
     rw [varCells_snoc, List.length_append]
     exact hown'
    have HOWN6 := Hd hown6
    obtain ⟨A6, c6, rfl⟩ := row_slice hown6
    clear hown' hk5 hown6 hl5 hwsz hsz5
    go_wp2_with fail
    refine (HPS.out _ HP5.out).mono ?_
    intro e w6 hr
    cases rq with
    | err z r =>
     obtain ⟨rfl, H4, H5⟩ := zE hr HK5
     go_wp2
     rw [← HD.out]
     exact ⟨rfl, rfl, H4.out, H5.out⟩
    | ok u1 r3 =>
     obtain ⟨_, rfl, rfl, h4, h5⟩ := hr
     have HP6 := Hd h4
     have HK6 := zV HK5 h5
     have HL6 := Hd (HLEN.out u1 r3 rfl)
     have HOWN7 := Hd (owned_keep HOWN6.out h5 (fun g hg hm => by have := (rowOf HOWN6.out hg).1; have := HBL.out; simp at hm; omega))
     have hR := HD.out
     simp only [Px.bind_ok] at hR
     have HD := Hd hR
     clear hR h4 h5
     go_wp2_with fail
     go_roundw
     · exact ⟨g, l ++ [(s1, false)], r3, by have := HL4.out; have := HL6.out; have := HG.out; simp at this; omega, by have := HL4.out; have := HL6.out; have := HLL.out; simp at this ⊢; omega, (by have h9 := HOWN7.out; simp only [List.length_append, List.length_cons, List.length_nil, Nat.zero_add] at h9 ⊢; exact h9), HP6.out, HK6.out, HD.out⟩
     ·
      rw [HP6.out.leftOf, HP.out.leftOf]
      have := HL4.out; have := HL6.out; simp; omega
  ·
   replace hv : Px.sees r [118, 97, 114] = false := by simpa using hv
   by_cases hp : Px.sees r [112, 116, 114] = true
   ·
    rw [hv] at HV
    rw [hp] at HPT
    obtain ⟨t, r1, rfl, htx⟩ := sees_cons (by simp) hp
    rw [hp] at hd
    rw [if_pos (by simp)] at hd
    have hq : ((strO t.text).toList == [112, 116, 114]) = true := by rw [strO_toList, htx]; rfl
    simp only [List.tail_cons] at hd
    have HT := Hd (take_any wr b n o k t r1 HP.out)
    obtain ⟨x, hx⟩ : ∃ x, x = strO t.text := ⟨_, rfl⟩
    rw [← hx] at HT hq
    have HU := Hd (fun w' (h' : PAt w' b n r1 o k) => decl_rp w' b n o k r1 h' l.length 20 (by have := HLL.out; simp at this; omega) (by omega))
    have hlen := fun aa qq (h : Px.declR l.length 20 r1 = .ok aa qq) => Px.declR_len h
    obtain ⟨rr, hrr⟩ : ∃ x, x = Px.declR l.length 20 r1 := ⟨_, rfl⟩
    rw [← hrr] at HU hlen hd
    have HD := Hd hd
    have HLEN := Hd hlen
    clear hd hlen hrr hx htx hv hp
    go_wp2_with fail
    refine (same (HV.out _ HP.out)) ?_
    go_wp2_with fail
    refine (same (HPT.out _ HP.out)) ?_
    go_wp2_with fail
    refine (HT.out).mono ?_
    rintro e w2 ⟨rfl, h1, h2⟩
    have HP2 := Hd h1
    have HK2 := zV HK h2
    have HOWN2 := Hd (owned_keep HOWN.out h2 (fun g hg hm => by have := (rowOf HOWN.out hg).1; have := HBL.out; simp at hm; omega))
    clear h1 h2
    go_wp2_with fail
    refine (HU.out _ HP2.out).mono ?_
    intro e w4 hr
    cases rr with
    | err z r =>
     obtain ⟨rfl, H4, H5⟩ := zE hr HK2
     go_wp2
     rw [← HD.out]
     exact ⟨rfl, rfl, H4.out, H5.out⟩
    | ok s1 r2 =>
     obtain ⟨_, rfl, rfl, h4, h5⟩ := hr
     have HP4 := Hd h4
     have HK4 := zV HK2 h5
     have HL4 := Hd (HLEN.out s1 r2 rfl)
     have HOWN4 := Hd (owned_keep HOWN2.out h5 (fun g hg hm => by have := (rowOf HOWN2.out hg).1; have := HBL.out; simp at hm; omega))
     have hR := HD.out
     simp only [Px.bind_ok] at hR
     unfold Px.want at hR
     have HPS := Hd (fun w' (h' : PAt w' b n r2 o k) => pass_rp w' b n o k r2 h' [59] (by simp))
     have hlen := fun aa qq (h : Px.passR [59] r2 = .ok aa qq) => Px.passR_len (by simp) h
     obtain ⟨rq, hrq⟩ : ∃ x, x = Px.passR [59] r2 := ⟨_, rfl⟩
     rw [← hrq] at HPS hlen hR
     have HD := Hd hR
     have HLEN := Hd hlen
     have hl5 : l.length ≤ 100000 := by have := HLL.out; omega
     have hwsz : w.heap.size ≤ w4.heap.size := HK4.out.size
     clear hR hlen hrq h4 h5
     go_wp2_with (at_builtin; refine wp_app rfl _ _ 23 123 rfl iP (.agg #[.string .empty, .bool false]) 2 24 Tryz.underlying23 hP hP0 hP1 hP2 rfl (by decide) (by decide) (.slice A l.length c) l.length w.heap.size (varCells l) rfl HOWN4.out 1 [.string (strO s1), .bool true] rfl rfl ?qa1 hl5 hwsz ?_)
     case qa1 => intro u hu; simp at hu; rcases hu with rfl | rfl <;> rfl
     intro v' w5 hown' hk5 _ hsz5
     have HP5 := Hd (HP4.out.keepHi hk5 (fun y hy => by have := (rowOf HOWN4.out (by simpa using hy)).1; have := HBL.out; omega))
     have HK5 := Hd (HK4.out.hi hk5 (fun y hy => (rowOf HOWN4.out (by simpa using hy)).1))
     have hown6 : w5.ownsRow w.heap.size 123 2 v' (l ++ [(s1, true)]).length (varCells (l ++ [(s1, true)])) := by
      rw [varCells_snoc, List.length_append]
      exact hown'
     have HOWN6 := Hd hown6
     obtain ⟨A6, c6, rfl⟩ := row_slice hown6
     clear hown' hk5 hown6 hl5 hwsz hsz5
     go_wp2_with fail
     refine (HPS.out _ HP5.out).mono ?_
     intro e w6 hr
     cases rq with
     | err z r =>
      obtain ⟨rfl, H4, H5⟩ := zE hr HK5
      go_wp2
      rw [← HD.out]
      exact ⟨rfl, rfl, H4.out, H5.out⟩
     | ok u1 r3 =>
      obtain ⟨_, rfl, rfl, h4, h5⟩ := hr
      have HP6 := Hd h4
      have HK6 := zV HK5 h5
      have HL6 := Hd (HLEN.out u1 r3 rfl)
      have HOWN7 := Hd (owned_keep HOWN6.out h5 (fun g hg hm => by have := (rowOf HOWN6.out hg).1; have := HBL.out; simp at hm; omega))
      have hR := HD.out
      simp only [Px.bind_ok] at hR
      have HD := Hd hR
      clear hR h4 h5
      go_wp2_with fail
      go_roundw
      · exact ⟨g, l ++ [(s1, true)], r3, by have := HL4.out; have := HL6.out; have := HG.out; simp at this; omega, by have := HL4.out; have := HL6.out; have := HLL.out; simp at this ⊢; omega, (by have h9 := HOWN7.out; simp only [List.length_append, List.length_cons, List.length_nil, Nat.zero_add] at h9 ⊢; exact h9), HP6.out, HK6.out, HD.out⟩
      ·
       rw [HP6.out.leftOf, HP.out.leftOf]
       have := HL4.out; have := HL6.out; simp; omega
   ·
    replace hp : Px.sees r [112, 116, 114] = false := by simpa using hp
    rw [hv] at HV
    rw [hp] at HPT
    rw [hv, hp, if_neg (by simp)] at hd
    have HD := Hd hd
    clear hv hp hd
    go_wp2_with fail
    refine (same (HV.out _ HP.out)) ?_
    go_wp2_with fail
    refine (same (HPT.out _ HP.out)) ?_
    go_wp2_with fail
    go_ret
    rw [← HD.out]
    have hbl := HBL.out
    exact ⟨_, rfl, owned_mono HOWN.out (by omega), HP.out, HK.out⟩
end
end Go.Proofs.YtbikifibfaaggaaGreatDoor
