/- Lists of statements; the contracts of statements. -/
import Derived.Test.YtbikifibfaaggaaGreatDoorPSt
namespace Go.Proofs.YtbikifibfaaggaaGreatDoor
open Go.RowKit Go.Shelf
open Lx (Tok Tx)
open Px (Ex Cn Sm)

/-- The contracts of statements, of so much fuel. -/
structure SC (f : Nat) : Prop where
  stmt : ∀ w b n ts o k, PAt w b n ts o k → o ≤ 1000 → 4 * ts.length + 7 ≤ f → Calls Tryz.prog 114 #[pp b] w (RP (SmBAt w.heap.size) Prod.snd w b n o (Px.stmt f o k ts))
  block : ∀ w b n ts o k, PAt w b n ts o k → o ≤ 1000 → 4 * ts.length + 5 ≤ f → Calls Tryz.prog 178 #[pp b] w (RP (SsAt w.heap.size) Prod.snd w b n o (Px.block f o k ts))
  stmts : ∀ w b n ts o k, PAt w b n ts o k → o ≤ 1000 → 4 * ts.length + 8 ≤ f → Calls Tryz.prog 83 #[pp b] w (RP (SsAt w.heap.size) Prod.snd w b n o (Px.stmts f o k [] ts))
set_option maxHeartbeats 4000000 in
set_option maxRecDepth 100000 in
theorem stmts_step (f : Nat) (w : World) (b n o k : Nat) (ts : List Tok) (h : PAt w b n ts o k) (ho2 : o ≤ 1000) (hf : 4 * ts.length + 8 ≤ f + 1) (hE : ∀ g, g ≤ f → SC g) :
    Calls Tryz.prog 83 #[pp b] w (RP (SsAt w.heap.size) Prod.snd w b n o (Px.stmts (f + 1) o k [] ts)) := by
  obtain ⟨R, hR⟩ : ∃ R, R = Px.stmts (f + 1) o k [] ts := ⟨_, rfl⟩
  rw [← hR]
  have HR := Lib.hid hR
  have HF := Lib.hid hf
  have HE := Lib.hid hE
  have H0 := Lib.hid h
  have HBL := Lib.hid h.lt
  obtain ⟨iP, hP, hP0, hP1, hP2⟩ := info_parts infoStmt
  clear hR hf hE h
  go_enter Tryz.func83, Tryz.ntmps83
  go_wp2_with fail
  go_loopw [3] (fun lv wr => ∃ (g k' : Nat) (l : List Sm) (r : List Tok) (cs : List Value) (B : Nat → Prop), 4 * r.length + 8 ≤ g ∧ g ≤ f + 1 ∧ l.length + r.length ≤ 5000 ∧ wr.ownsRow w.heap.size 60 10 lv l.length cs ∧ (∀ y, lv.ownBlock = some y → ¬ B y) ∧ SmC wr b B l cs ∧ (∀ y, B y → w.heap.size ≤ y ∧ y < wr.heap.size) ∧ PAt wr b n r o k' ∧ Keeps [b] w wr ∧ Px.stmts g o k' l r = R) (fun _ wr => leftOf wr b)
  case atStart => exact ⟨f + 1, k, [], ts, [], fun _ => False, HF.out, Nat.le_refl _, by simpa using H0.out.1.len, World.ownsRow_nil _ _ _ _, fun y h => id, rfl, fun y h => h.elim, H0.out, Keeps.refl _ _, HR.out.symm⟩
  case round =>
    obtain ⟨g, k', l, r, cs, B, hg, hgf, hll, hown, hnb, hsm, hB, hp, hk, hd⟩ := hrel
    match g, hg, hgf, hd with
    | g + 1, hg, hgf, hd =>
    have HG := Lib.hid hg
    have HGF := Lib.hid hgf
    have HLL := Lib.hid hll
    have HOWN := Lib.hid hown
    have HNB := Lib.hid hnb
    have HSM := Lib.hid hsm
    have HBB := Lib.hid hB
    have HP := Lib.hid hp
    have HK := Lib.hid hk
    obtain ⟨A, c, rfl⟩ := row_slice hown
    unfold Px.stmts at hd
    clear hg hgf hll hown hnb hsm hB hp hk
    by_cases hs : Px.sees r [125] = true
    · rw [if_pos hs] at hd
      have HD := Lib.hid hd
      have HS := Lib.hid (fun w' (h' : PAt w' b n r o k') => sees_any w' b n o k' r h' [125])
      rw [hs] at HS
      clear hs hd
      go_wp2_with fail
      refine (HS.out _ HP.out).mono ?_
      rintro e w' ⟨rfl, rfl⟩
      go_wp2_with fail
      go_ret
      rw [← HD.out]
      have hbl := HBL.out
      exact ⟨_, rfl, ⟨fun y => B y ∨ (Value.slice A l.length c).ownBlock = some y, ⟨cs, owned_mono HOWN.out (by omega), fun y h => .inr h, SmC.wider (fun y h => .inl h) l cs HSM.out⟩, fun y hy => by
        rcases hy with hy | hy
        · exact HBB.out y hy
        · obtain ⟨q1, cur, q2⟩ := rowOf HOWN.out hy
          exact ⟨q1, block_lt q2⟩⟩, HP.out, HK.out⟩
    · have hs' : Px.sees r [125] = false := by simpa using hs
      rw [if_neg hs] at hd
      have HS := Lib.hid (fun w' (h' : PAt w' b n r o k') => sees_any w' b n o k' r h' [125])
      rw [hs'] at HS
      have HU := Lib.hid (fun w' (h' : PAt w' b n r o k') => (HE.out g (by have := HGF.out; omega)).stmt w' b n r o k' h' ho2 (by have := HG.out; omega))
      have hlen := fun aa qq (h : Px.stmt g o k' r = .ok aa qq) => (Px.sm_len g).1 _ _ _ _ _ h
      obtain ⟨rr, hrr⟩ : ∃ x, x = Px.stmt g o k' r := ⟨_, rfl⟩
      rw [← hrr] at HU hlen hd
      have HD := Lib.hid hd
      have HLEN := Lib.hid hlen
      clear hs hs' hlen hrr hd
      go_wp2_with fail
      refine (HS.out _ HP.out).mono ?_
      rintro e w' ⟨rfl, rfl⟩
      go_wp2_with fail
      refine (HU.out _ HP.out).mono ?_
      intro e w4 hr
      cases rr with
      | err z r =>
        obtain ⟨rfl, h4, h5⟩ := hr
        have H4 := Lib.hid h4
        have H5 := Lib.hid (HK.out.trans h5 (fun _ h _ => h))
        clear h4 h5
        go_wp2
        rw [← HD.out]
        exact ⟨rfl, rfl, H4.out, H5.out⟩
      | ok a r2 =>
        obtain ⟨v4, rfl, ⟨vs, B1, hv, h3, hB1⟩, h4, h5⟩ := hr
        have HEE := Lib.hid h3
        obtain ⟨kd, sx, sy, qe, qf, qc, Aa, na, ca, At, nt, ct, Al, nl, cl, at_, rfl⟩ := h3.form
        subst hv
        have HP4 := Lib.hid h4
        have HL4 := Lib.hid (HLEN.out a r2 rfl)
        have HK4 := Lib.hid (HK.out.trans h5 (fun _ h _ => h))
        have HBB1 := Lib.hid hB1
        have HSZ4 := Lib.hid h5.size
        have HOWN4 := Lib.hid (owned_keep HOWN.out h5 (fun g hg hm => by have := (rowOf HOWN.out hg).1; have := HBL.out; simp at hm; omega))
        have HSM4 := Lib.hid (SmC.keep h5 off_b l cs HSM.out)
        have hR := HD.out
        simp only [Px.bind_ok] at hR
        have HD := Lib.hid hR
        have hl5 : l.length ≤ 100000 := by have := HLL.out; omega
        have hwsz : w.heap.size ≤ w4.heap.size := HK4.out.size
        clear hR h3 h4 h5 hB1
        go_wp2_with (at_builtin; refine wp_app rfl _ _ 24 60 rfl iP (.agg #[.int .i64 0, .string .empty, .string .empty, .pointer none, .pointer none, .pointer none, .slice none 0 0, .slice none 0 0, .slice none 0 0, .int .i64 0]) 10 144 Tryz.underlying24 hP hP0 hP1 hP2 rfl (by decide) (by decide) (.slice A l.length c) l.length w.heap.size cs rfl HOWN4.out 1 [.int .i64 kd, .string sx, .string sy, .pointer qe, .pointer qf, .pointer qc, .slice Aa na ca, .slice At nt ct, .slice Al nl cl, .int .i64 at_] rfl rfl ?qa1 hl5 hwsz ?_)
        case qa1 => intro u hu; simp at hu; rcases hu with rfl | rfl | rfl | rfl | rfl | rfl | rfl | rfl | rfl | rfl <;> rfl
        intro v' w5 hown' hk5 hblk hsz5
        have hown0 := HOWN.out
        have hown4 := HOWN4.out
        have hoff : ∀ (C : Nat → Prop), (∀ y, (Value.slice A l.length c).ownBlock = some y → ¬ C y) → Off w4 b C (Value.slice A l.length c).ownBlock.toList := fun C hC y hy => .inr (by
          have hy' : (Value.slice A l.length c).ownBlock = some y := by simpa using hy
          obtain ⟨_, cur, hcur⟩ := rowOf hown4 hy'
          exact ⟨hC y hy', NotT.of hcur (by decide), NotT.of hcur (by decide), NotT.of hcur (by decide)⟩)
        have hC1 : ∀ y, (Value.slice A l.length c).ownBlock = some y → ¬ B1 y := fun y hy h => by
          obtain ⟨_, cur, hcur⟩ := rowOf hown0 hy
          have := block_lt hcur
          have := (HBB1.out y h).1
          omega
        have HP5 := Lib.hid (HP4.out.keepHi hk5 (fun y hy => by have := (rowOf hown4 (by simpa using hy)).1; have := HBL.out; omega))
        have HK5 := Lib.hid (HK4.out.hi hk5 (fun y hy => (rowOf hown4 (by simpa using hy)).1))
        have HSM5 := Lib.hid (SmC.snoc (SmAt.wider (B' := fun y => B y ∨ B1 y) (fun y h => .inr h) _ _ (SmAt.keep hk5 (hoff B1 hC1) _ _ HEE.out)) l cs (SmC.wider (fun y h => .inl h) l cs (SmC.keep hk5 (hoff B HNB.out) l cs HSM4.out)))
        have hown6 : w5.ownsRow w.heap.size 60 10 v' (l ++ [a.1]).length (cs ++ [.int .i64 kd, .string sx, .string sy, .pointer qe, .pointer qf, .pointer qc, .slice Aa na ca, .slice At nt ct, .slice Al nl cl, .int .i64 at_]) := by
          rw [List.length_append]
          exact hown'
        have HOWN6 := Lib.hid hown6
        have HNB6 := Lib.hid (show ∀ y, v'.ownBlock = some y → ¬ (B y ∨ B1 y) from fun y hy h => by
          rcases hblk with hb | hb
          · rw [hb] at hy
            rcases h with h | h
            · exact HNB.out y hy h
            · exact hC1 y hy h
          · rw [hb] at hy
            obtain rfl : w4.heap.size + 1 = y := by simpa using hy
            rcases h with h | h
            · have := (HBB.out _ h).2; have := HSZ4.out; omega
            · have := (HBB1.out _ h).2; omega)
        have HBB6 := Lib.hid (show ∀ y, (B y ∨ B1 y) → w.heap.size ≤ y ∧ y < w5.heap.size from fun y h => by
          have h7 := HSZ4.out
          rcases h with h | h
          · have := HBB.out y h; exact ⟨this.1, by omega⟩
          · have := HBB1.out y h; have h8 := HK.out.size; exact ⟨by omega, by omega⟩)
        clear hown' hk5 hown6 hblk hoff hC1 hown0 hown4 hl5 hwsz hsz5
        go_wp2_with fail
        go_roundw
        · exact ⟨g, a.2, l ++ [a.1], r2, cs ++ [.int .i64 kd, .string sx, .string sy, .pointer qe, .pointer qf, .pointer qc, .slice Aa na ca, .slice At nt ct, .slice Al nl cl, .int .i64 at_], fun y => B y ∨ B1 y, by have := HL4.out; have := HG.out; omega, by have := HGF.out; omega, by have := HL4.out; have := HLL.out; simp; omega, HOWN6.out, HNB6.out, HSM5.out, HBB6.out, HP5.out, HK5.out, HD.out⟩
        · rw [HP5.out.leftOf, HP.out.leftOf]
          have := HL4.out; omega
theorem rp_stay {α : Type} {At : World → Nat → α → Value → Prop} {kk : α → Nat} {w : World} {b n o k : Nat} {ts : List Tok} (h : PAt w b n ts o k) (z : Nat) (e : Ending) (w' : World) (he : e = .panicked (died (z : Int)) ∧ w = w') : RP At kk w b n o (.err z ts : Px.R α) e w' := by
  obtain ⟨h1, h2⟩ := he
  subst h2
  exact ⟨h1, ⟨_, _, h⟩, Keeps.refl _ _⟩
/-- The contracts of statements. -/
theorem sc : ∀ f, SC f := fun f => by
  induction f using Nat.strongRecOn with
  | _ f ih =>
    match f, ih with
    | 0, _ => exact ⟨fun w b n ts o k h ho hf => by omega, fun w b n ts o k h ho hf => by omega, fun w b n ts o k h ho hf => by omega⟩
    | f + 1, ih =>
      have hle : ∀ g, g ≤ f → SC g := fun g hg => ih g (by omega)
      have hb : ∀ {x : Bool}, ¬ x = true → x = false := fun {x} h => by simpa using h
      refine ⟨fun w b n ts o k h ho hf => ?_, fun w b n ts o k h ho hf => ?_, fun w b n ts o k h ho hf => stmts_step f w b n o k ts h ho hf hle⟩
      · unfold Px.stmt
        by_cases hy : Px.seesStmt ts = true
        · rw [if_pos hy]
          by_cases hk : 200 ≤ k
          · rw [if_pos hk]; exact stmt_many w b n o k ts h hy hk
          · rw [if_neg hk]
            have hblk : ∀ k r a r', Px.block f o k r = .ok a r' → r'.length < r.length := fun k r a r' h => (Px.sm_len f).2.1 _ _ _ _ _ h
            have hbk : ∀ w' r k', PAt w' b n r o k' → r.length < ts.length → Calls Tryz.prog 178 #[pp b] w' (RP (SsAt w'.heap.size) Prod.snd w' b n o (Px.block f o k' r)) := fun w' r k' h' hl => (hle f (Nat.le_refl _)).block w' b n r o k' h' ho (by omega)
            by_cases h1 : Px.sees ts [105, 102] = true
            · rw [if_pos h1]
              exact stmt_if w b n o k ts h hy (by omega) h1 _ (fun w1 h' => branch_any w1 b n o (k + 1) ts f h' ho (by omega) (fun k r => Px.block f o k r) hblk hbk)
            · rw [if_neg h1]
              by_cases h2 : Px.sees ts [119, 104, 105, 108, 101] = true
              · rw [if_pos h2]
                exact stmt_while w b n o k ts h hy (by omega) (hb h1) h2 _ (fun w1 h' => loop_any w1 b n o (k + 1) ts f h' ho (by omega) (fun k r => Px.block f o k r) hblk hbk)
              · rw [if_neg h2]
                exact stmt_simple w b n o k ts h hy (by omega) (hb h1) (hb h2) _ (fun w1 h' => simple_any w1 b n o (k + 1) ts f h' ho (by omega))
        · rw [if_neg hy]; exact stmt_no w b n o k ts h (hb hy)
      · unfold Px.block
        by_cases hy : Px.sees ts [123] = true
        · rw [if_pos hy]
          by_cases hoo : 40 ≤ o
          · rw [if_pos hoo]; exact (block_deep w b n o k ts h hy hoo ho).mono fun e w' he => rp_stay h 52 e w' he
          · rw [if_neg hoo]
            have hl := Px.sees_len (by simp) hy
            exact block_ok w b n o k ts h hy (by omega) _ (fun w1 h' => (hle f (Nat.le_refl _)).stmts w1 b n ts.tail (o + 1) k h' (by omega) (by simp; omega))
        · rw [if_neg hy]; exact (block_no w b n o k ts h (hb hy)).mono fun e w' he => rp_stay h 51 e w' he
theorem stmts_any (w : World) (b n o k : Nat) (ts : List Tok) (f : Nat) (h : PAt w b n ts o k) (ho : o ≤ 1000) (hf : 4 * ts.length + 8 ≤ f) :
    Calls Tryz.prog 83 #[pp b] w (RP (SsAt w.heap.size) Prod.snd w b n o (Px.stmts f o k [] ts)) := (sc f).stmts w b n ts o k h ho hf
end Go.Proofs.YtbikifibfaaggaaGreatDoor
