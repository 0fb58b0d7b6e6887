import Derived.Test.YtbikifibfaaggaaGreatDoorVQSt2
import Derived.Test.YtbikifibfaaggaaGreatDoorVMN
import Derived.Test.YtbikifibfaaggaaGreatDoorVLRef
namespace Go.Proofs.YtbikifibfaaggaaGreatDoor
section
set_option maxHeartbeats 4000000
set_option maxRecDepth 100000
open Go.RowKit Go.Shelf
open Lx (Tok Tx)
open Px (Ex Cn Sm)
theorem block_no' {n f : Nat} {σ : St} (h : σ.sees [123] = false) : σ.lift n kS (sblock (f + 1)) = (none, σ.fail n 51) := by
 cases σ with
 | dead z p o => rfl
 | live ts o k =>
  have h : Px.sees ts [123] = false := h
  have hu : Px.block (f + 1) o k ts = .err 51 ts := by rw [Px.block]; simp only [h]; rfl
  rw [St.lift_err (g := sblock (f + 1)) hu]; rfl
theorem block_deep' {n f o k : Nat} {ts : List Tok} (h : Px.sees ts [123] = true) (ho : 40 ≤ o) : (St.live ts o k).lift n kS (sblock (f + 1)) = (none, .dead 52 (Px.place n ts) o) := by
 have hu : Px.block (f + 1) o k ts = .err 52 ts := by rw [Px.block]; simp only [h, if_true, if_pos ho]
 rw [St.lift_err (g := sblock (f + 1)) hu]
theorem block_ok' {n f o k : Nat} {ts : List Tok} (h : Px.sees ts [123] = true) (ho : ¬ 40 ≤ o) : (St.live ts o k).lift n kS (sblock (f + 1)) = (((St.live ts.tail (o + 1) k).lift n kS (sstmts f [])).1, ((St.live ts.tail (o + 1) k).lift n kS (sstmts f [])).2.depthTo o) := by
 have hu : Px.block (f + 1) o k ts = (Px.stmts f (o + 1) k [] ts.tail).bind fun p r => Px.want [125] r fun r => .ok p r := by rw [Px.block]; simp only [h, if_true, if_neg ho]
 simp only [St.lift, sblock, sstmts, hu]
 cases (Px.stmts f (o + 1) k [] ts.tail).bind fun p r => Px.want [125] r fun r => .ok p r <;> rfl
theorem stmts_end {n g o k : Nat} {l : List Sm} {ts : List Tok} (h : Px.sees ts [125] = true) : (St.live ts o k).lift n kS (sstmts (g + 1) l) = (some (l, k), .live ts.tail o k) := by
 have hu : sstmts (g + 1) l ts o k = .ok (l, k) ts.tail := by
  show (Px.stmts (g + 1) o k l ts).bind _ = _
  rw [Px.stmts]; simp only [h, if_true, Px.bind_ok]; exact want_ok h
 rw [St.lift_ok hu]; rfl
theorem stmts_next {n g o k : Nat} {l : List Sm} {ts r : List Tok} {a : Sm × Nat} (h : Px.sees ts [125] = false) (hs : Px.stmt g o k ts = .ok a r) : (St.live ts o k).lift n kS (sstmts (g + 1) l) = (St.live r o a.2).lift n kS (sstmts g (l ++ [a.1])) := by
 have hu : sstmts (g + 1) l ts o k = sstmts g (l ++ [a.1]) r o a.2 := by
  show (Px.stmts (g + 1) o k l ts).bind _ = (Px.stmts g o a.2 (l ++ [a.1]) r).bind _
  rw [Px.stmts]; simp only [h, hs]; rfl
 simp only [St.lift, hu]
 cases sstmts g (l ++ [a.1]) r o a.2 <;> rfl
theorem stmts_err {n g o k z : Nat} {l : List Sm} {ts r : List Tok} (h : Px.sees ts [125] = false) (hs : Px.stmt g o k ts = .err z r) : (St.live ts o k).lift n kS (sstmts (g + 1) l) = (none, .dead z (Px.place n r) o) := by
 have hu : sstmts (g + 1) l ts o k = .err z r := by
  show (Px.stmts (g + 1) o k l ts).bind _ = _
  rw [Px.stmts]; simp only [h, hs]; rfl
 rw [St.lift_err hu]
theorem smc_low {w : World} {lo hi : Nat} {l : List Sm} {v : Value} {B : Nat → Prop} (h : lo ≤ hi) (hs : SsB w hi B l v) : SsB w lo B l v := by
 obtain ⟨cs, h1, h2, h3⟩ := hs
 exact ⟨cs, own_low h1 (by omega), h2, SmC.low h l cs h3⟩
structure QSC (f : Nat) : Prop where
 stmt : ∀ w b n ts o k lo, SA w b n (.live ts o k) → o ≤ 1000 → k ≤ 250 → 4 * ts.length + 8 ≤ f → b ≤ lo → lo < w.heap.size → Calls Tryz.prog 84 #[pp b] w (QS (SmBAt w.heap.size) IsAgg lo w b n ((St.live ts o k).lift n kS (sstmt f)))
 block : ∀ w b n σ lo, SA w b n σ → σ.fits f 6 → σ.few → b ≤ lo → lo < w.heap.size → Calls Tryz.prog 117 #[pp b] w (QS (SsAt w.heap.size) IsSl lo w b n (σ.lift n kS (sblock f)))
 stmts : ∀ w b n σ lo, SA w b n σ → σ.fits f 9 → σ.few → b ≤ lo → lo < w.heap.size → Calls Tryz.prog 42 #[pp b] w (QS (SsAt w.heap.size) IsSl lo w b n (σ.lift n kS (sstmts f [])))
theorem stmt_begins {ts : List Tok} (h : Px.seesStmt ts = false) : Px.isName ts = false ∧ Px.sees ts [42] = false ∧ Px.sees ts [114, 101, 116, 117, 114, 110] = false ∧ Px.sees ts [97, 115, 115, 101, 114, 116] = false ∧ Px.sees ts [105, 102] = false ∧ Px.sees ts [119, 104, 105, 108, 101] = false := by
 unfold Px.seesStmt at h
 simp only [Bool.or_eq_false_iff] at h
 exact ⟨h.2, h.1.1.1.1.1, h.1.1.1.1.2, h.1.1.1.2, h.1.1.2, h.1.2⟩
theorem qstmt_step (f : Nat) (hE : QSC f) (w : World) (b n : Nat) (ts : List Tok) (o k lo : Nat) (h : SA w b n (.live ts o k)) (ho : o ≤ 1000) (hk : k ≤ 250) (hf : 4 * ts.length + 8 ≤ f + 1) (hb : b ≤ lo) (hlo : lo < w.heap.size) :
 Calls Tryz.prog 84 #[pp b] w (QS (SmBAt w.heap.size) IsAgg lo w b n ((St.live ts o k).lift n kS (sstmt (f + 1)))) := by
 have hkk : k ≤ 100000 := by omega
 cases hss : Px.seesStmt ts with
 | false =>
  rw [stmt_none hss]
  obtain ⟨q1, q2, q3, q4, q5, q6⟩ := stmt_begins hss
  exact qst_none f w b n ts o k lo h hb hlo hkk q1 q2 q3 q4 q5 q6 ho
 | true =>
  have hl : 0 < ts.length := by
   match ts, hss with
   | [], h => exact absurd h (by decide)
   | _ :: _, _ => simp
  have hB : ∀ w' σ lo', SA w' b n σ → σ.fits f 6 → σ.few → b ≤ lo' → lo' < w'.heap.size → Calls Tryz.prog 117 #[pp b] w' (QS (SsAt w'.heap.size) IsSl lo' w' b n (σ.lift n kS (sblock f))) := fun w' σ lo' h1 h2 h3 h4 h5 => hE.block w' b n σ lo' h1 h2 h3 h4 h5
  cases h1 : Px.sees ts [42] with
  | true =>
   have hm : Px.isName ts = true ∨ Px.isName ts = false := by cases Px.isName ts <;> simp
   have q3 := sees_other h1 (t := [114, 101, 116, 117, 114, 110]) (by decide)
   have q4 := sees_other h1 (t := [97, 115, 115, 101, 114, 116]) (by decide)
   have q5 := sees_other h1 (t := [105, 102]) (by decide)
   have q6 := sees_other h1 (t := [119, 104, 105, 108, 101]) (by decide)
   by_cases h200 : 200 ≤ k
   ·
    rw [stmt_most hss h200]
    rcases hm with hm | hm
    · exact qst_most_name f w b n ts o k lo h hb hlo hkk h200 hm
    · exact qst_most_star f w b n ts o k lo h hb hlo hkk h200 hm h1
   ·
    rw [stmt_star h1 (by omega)]
    rcases hm with hm | hm
    · exact qst_star2 f w b n ts o k lo h hb hlo hkk (by omega) hm h1 q3 q4 q5 q6 (by omega) ho rfl
    · exact qst_star f w b n ts o k lo h hb hlo hkk (by omega) hm h1 q3 q4 q5 q6 (by omega) ho rfl
  | false =>
   cases h2 : Px.sees ts [114, 101, 116, 117, 114, 110] with
   | true =>
    have hm := isName_word h2 (by simp) (by decide)
    by_cases h200 : 200 ≤ k
    · rw [stmt_most hss h200]; exact qst_most_ret f w b n ts o k lo h hb hlo hkk h200 hm h1 h2
    · rw [stmt_ret h2 (by omega)]; exact qst_ret f w b n ts o k lo h hb hlo hkk (by omega) hm h1 h2 (by omega) ho
   | false =>
    cases h3 : Px.sees ts [97, 115, 115, 101, 114, 116] with
    | true =>
     have hm := isName_word h3 (by simp) (by decide)
     by_cases h200 : 200 ≤ k
     · rw [stmt_most hss h200]; exact qst_most_assert f w b n ts o k lo h hb hlo hkk h200 hm h1 h2 h3
     · rw [stmt_assert h3 (by omega)]; exact qst_assert f w b n ts o k lo h hb hlo hkk (by omega) hm h1 h2 h3 (sees_other h3 (by decide)) (sees_other h3 (by decide)) (by omega) ho rfl
    | false =>
     cases h4 : Px.sees ts [105, 102] with
     | true =>
      have hm := isName_word h4 (by simp) (by decide)
      by_cases h200 : 200 ≤ k
      · rw [stmt_most hss h200]; exact qst_most_if f w b n ts o k lo h hb hlo hkk h200 hm h1 h2 h3 h4
      · exact qst_if f w b n ts o k lo h hb hlo hkk (by omega) hm h1 h2 h3 h4 (sees_other h4 (by decide)) (by omega) ho hB rfl rfl rfl (stmt_branch h4 (by omega) rfl rfl rfl)
     | false =>
      cases h5 : Px.sees ts [119, 104, 105, 108, 101] with
      | true =>
       have hm := isName_word h5 (by simp) (by decide)
       by_cases h200 : 200 ≤ k
       · rw [stmt_most hss h200]; exact qst_most_while f w b n ts o k lo h hb hlo hkk h200 hm h1 h2 h3 h4 h5
       · rw [stmt_loop h5 (by omega) rfl rfl]; exact qst_while f w b n ts o k lo h hb hlo hkk (by omega) hm h1 h2 h3 h4 h5 (by omega) ho hB rfl rfl
      | false =>
       have hm : Px.isName ts = true := by
        unfold Px.seesStmt at hss
        simpa [h1, h2, h3, h4, h5] using hss
       by_cases h200 : 200 ≤ k
       · rw [stmt_most hss h200]; exact qst_most_name f w b n ts o k lo h hb hlo hkk h200 hm
       ·
        cases h6 : Px.sees ts.tail [40] with
        | true => rw [stmt_call h1 hm (by omega) h6]; exact qst_call f w b n ts o k lo h hb hlo hkk (by omega) hm h1 h2 h3 h4 h5 (by omega) ho h6 rfl
        | false =>
         cases h7 : Px.sees ts.tail [91] with
         | true => rw [stmt_put h1 hm (by omega) h7 rfl rfl]; exact qst_put f w b n ts o k lo h hb hlo hkk (by omega) hm h1 h2 h3 h4 h5 (by omega) ho h6 h7 rfl rfl
         | false => rw [stmt_set h1 hm (by omega) h6 h7 rfl]; exact qst_set f w b n ts o k lo h hb hlo hkk (by omega) hm h1 h2 h3 h4 h5 (by omega) ho h6 h7 rfl
theorem qblock_no (f : Nat) (w : World) (b n : Nat) (σ : St) (lo : Nat) (h : SA w b n σ) (hs : σ.sees [123] = false) :
 Calls Tryz.prog 117 #[pp b] w (QS (SsAt w.heap.size) IsSl lo w b n (none, σ.fail n 51)) := by
 have HI := Hd (qis_any w b n σ h [123])
 rw [hs] at HI
 have HF := Hd (fun w' (h : SA w' b n σ) => qfail_any w' b n σ h 51 (by omega) (by omega))
 have HS := Hd h
 clear h hs
 go_enter Tryz.func117, Tryz.ntmps117
 go_wp2_with fail
 refine (HI.out).mono ?_
 rintro e w1 ⟨rfl, hk⟩
 have HS := zS HS hk
 have HK := Hd hk
 clear hk
 go_wp2_with fail
 refine (HF.out _ HS.out).mono ?_
 rintro e w2 ⟨rfl, hs, hk⟩
 have HS := Hd hs
 have HK := Hd ((HK.out.mono (T := [b]) (by simp)).trans hk (fun _ h _ => h))
 clear hs hk
 go_wp2
 go_ret
 exact ⟨.slice none 0 0, rfl, ⟨_, _, _, rfl⟩, HK.out, HS.out, fun _ h => by cases h⟩
theorem qblock_deep (w : World) (b n : Nat) (ts : List Tok) (o k lo : Nat) (h : SA w b n (.live ts o k)) (hs : Px.sees ts [123] = true) (ho : 40 ≤ o) (ho2 : o ≤ 1000) :
 Calls Tryz.prog 117 #[pp b] w (QS (SsAt w.heap.size) IsSl lo w b n (none, .dead 52 (Px.place n ts) o)) := by
 have HI := Hd (qis_any w b n _ h [123])
 have hse : (St.live ts o k).sees [123] = true := hs
 rw [hse] at HI
 have HO := Hd (fun w' (h : SA w' b n (.live ts o k)) => qopen_any w' b n _ h (fun ts' o' k' e => by injection e; omega))
 have hop : (St.live ts o k).open n = (false, .dead 52 (Px.place n ts) o) := by simp [St.open, ho]
 rw [hop] at HO
 have HS := Hd h
 clear h hs hse hop
 go_enter Tryz.func117, Tryz.ntmps117
 go_wp2_with fail
 refine (HI.out).mono ?_
 rintro e w1 ⟨rfl, hk⟩
 have HS := zS HS hk
 have HK := Hd hk
 clear hk
 go_wp2_with fail
 refine (HO.out _ HS.out).mono ?_
 rintro e w2 ⟨rfl, hs, hk⟩
 have HS := Hd hs
 have HK := Hd ((HK.out.mono (T := [b]) (by simp)).trans hk (fun _ h _ => h))
 clear hs hk
 go_wp2
 go_ret
 exact ⟨.slice none 0 0, rfl, ⟨_, _, _, rfl⟩, HK.out, HS.out, fun _ h => by cases h⟩
theorem SsAt.lower {lo lo' X : Nat} {w : World} {p : List Sm × Nat} {v : Value} (h : SsAt lo w X p v) (hl : lo' ≤ lo) : SsAt lo' w X p v := by
 obtain ⟨B, h1, h2⟩ := h
 exact ⟨B, h1, fun g hg => ⟨by have := (h2 g hg).1; omega, (h2 g hg).2⟩⟩
theorem SsAt.keepS2 {lo X : Nat} {w w' : World} {p : List Sm × Nat} {v : Value} {S : List Nat} (h : SsAt lo w X p v) (hk : Keeps S w w') (hS : ∀ y ∈ S, y ≤ X) : SsAt lo w' X p v := by
 obtain ⟨B, h1, h2⟩ := h
 exact ⟨B, h1.keep hk (fun y hy => .inl (hS y hy)), fun g hg => ⟨(h2 g hg).1, by have := (h2 g hg).2; have := hk.size; omega⟩⟩
theorem qblock_ok (f : Nat) (w : World) (b n : Nat) (t : Tok) (r : List Tok) (o k lo : Nat) (h : SA w b n (.live (t :: r) o k)) (hs : Px.sees (t :: r) [123] = true) (ho : ¬ 40 ≤ o) (hb : b ≤ lo) (hlo : lo < w.heap.size)
 (hF : ∀ w1, SA w1 b n (.live r (o + 1) k) → lo < w1.heap.size → Calls Tryz.prog 42 #[pp b] w1 (QS (SsAt w1.heap.size) IsSl lo w1 b n ((St.live r (o + 1) k).lift n kS (sstmts f [])))) :
 Calls Tryz.prog 117 #[pp b] w (QS (SsAt w.heap.size) IsSl lo w b n (((St.live r (o + 1) k).lift n kS (sstmts f [])).1, ((St.live r (o + 1) k).lift n kS (sstmts f [])).2.depthTo o)) := by
 have HI := Hd (qis_any w b n _ h [123])
 have hse : (St.live (t :: r) o k).sees [123] = true := hs
 rw [hse] at HI
 have HO := Hd (fun w' (h : SA w' b n (.live (t :: r) o k)) => qopen_any w' b n _ h (fun ts' o' k' e => by injection e; omega))
 have hop : (St.live (t :: r) o k).open n = (true, .live (t :: r) (o + 1) k) := by simp [St.open, ho]
 rw [hop] at HO
 have hdp := St.lift_depth n kS (sstmts f []) (St.live r (o + 1) k)
 obtain ⟨P, hP⟩ : ∃ P, P = (St.live r (o + 1) k).lift n kS (sstmts f []) := ⟨_, rfl⟩
 rw [← hP] at hF hdp ⊢
 have HDP := Hd (show P.2.depth = o + 1 from hdp)
 have HFF := Hd hF
 have HS := Hd h
 clear h hs hse hop hF hP hdp
 go_enter Tryz.func117, Tryz.ntmps117
 go_wp2_with fail
 refine (HI.out).mono ?_
 rintro e w1 ⟨rfl, hk⟩
 have HS := zS HS hk
 have HK := Hd hk
 clear hk
 go_wp2_with fail
 refine (HO.out _ HS.out).mono ?_
 rintro e w2 ⟨rfl, hs, hk⟩
 obtain ⟨g', off', L', cap', i', c0', c1', hi', hL', e0, d1, e1, f1, hq⟩ := hs.prev
 have HK := Hd ((HK.out.mono (T := [b]) (by simp)).trans hk (fun _ h _ => h))
 have HQ := Hd hq
 clear hs hk hq e0 d1 e1 c0'
 go_wp2_with fail
 refine (HFF.out _ HQ.out (by have := HK.out.size; simp; omega)).mono ?_
 rintro e w3 ⟨v, rfl, ⟨A9, n9, c9, rfl⟩, hk, hs, ha⟩
 have HKS := Hd (show w.heap.size ≤ (w2.setCell ⟨b, 1, none⟩ (.int .i64 ((i' : Int) + 1))).heap.size by have := HK.out.size; simp; omega)
 have HK := Hd ((HK.out.set1 1 _).trans hk (fun _ h _ => h))
 have HA := Hd ha
 obtain ⟨c5, f5, hset⟩ := hs.deep
 have HSET := Hd hset
 rw [HDP.out] at c5
 clear hk hs ha hset c1'
 go_wp2
 go_ret
 refine ⟨.slice A9 n9 c9, rfl, ⟨_, _, _, rfl⟩, HK.out.set1 5 _, HSET.out o, fun a h => ?_⟩
 exact ((HA.out a h).lower HKS.out).keepS2 ((Keeps.refl [b] _).set1 5 _) (by simp; omega)
theorem off_lo {w : World} {b lo : Nat} {B : Nat → Prop} (h : b ≤ lo) : Off w lo B [b] := fun y hy => .inl (by simp at hy; omega)
theorem qstmts_live (f : Nat) (w : World) (b n : Nat) (ts : List Tok) (o k lo : Nat) (h : SA w b n (.live ts o k)) (ho2 : o ≤ 1000) (hk2 : k ≤ 250) (hf : 4 * ts.length + 9 ≤ f + 1) (hb : b ≤ lo) (hlo : lo < w.heap.size) (hE : ∀ g, g ≤ f → QSC g) :
 Calls Tryz.prog 42 #[pp b] w (QS (SsAt w.heap.size) IsSl lo w b n ((St.live ts o k).lift n kS (sstmts (f + 1) []))) := by
 obtain ⟨R, hR⟩ : ∃ R, R = (St.live ts o k).lift n kS (sstmts (f + 1) []) := ⟨_, rfl⟩
 rw [← hR]
 have HR := Hd hR
 have HF := Hd hf
 have HE := Hd hE
 have H0 := Hd h
 have HBL := Hd h.lt
 obtain ⟨iP, hP, hP0, hP1, hP2⟩ := info_parts infoStmt
 clear hR hf hE h
 go_enter Tryz.func42, Tryz.ntmps42
 go_wp2_with fail
 go_loopw [3] (fun lv wr => IsSl lv ∧ Keeps [b] w wr ∧ ∃ σ, SA wr b n σ ∧ ((∃ (g k' : Nat) (l : List Sm) (r : List Tok) (cs : List Value) (B : Nat → Prop), σ = .live r o k' ∧ k' ≤ 250 ∧ 4 * r.length + 9 ≤ g ∧ g ≤ f + 1 ∧ l.length + r.length ≤ 5000 ∧ wr.ownsRow w.heap.size 60 10 lv l.length cs ∧ (∀ y, lv.ownBlock = some y → ¬ B y) ∧ SmC wr lo B l cs ∧ (∀ y, B y → w.heap.size ≤ y ∧ y < wr.heap.size) ∧ R = σ.lift n kS (sstmts g l)) ∨ (∃ z p, σ = .dead z p o ∧ R = (none, σ)))) (fun _ wr => qrank wr b)
 case atStart => exact ⟨⟨_, _, _, rfl⟩, Keeps.refl _ _, _, H0.out, .inl ⟨f + 1, k, [], ts, [], fun _ => False, rfl, hk2, HF.out, Nat.le_refl _, by simpa using H0.out.good.len, World.ownsRow_nil _ _ _ _, fun y h => id, rfl, fun y h => h.elim, HR.out⟩⟩
 case round =>
  obtain ⟨⟨A, m, c, rfl⟩, hk, σ, hs, hc⟩ := hrel
  have c3 := hs.flag
  rcases hc with ⟨g, k', l, r, cs, B, rfl, hk9, hg, hgf, hll, hown, hnb, hsm, hB, hd⟩ | ⟨z, p, rfl, hR⟩
  ·
   simp only [St.err] at c3
   match g, hg, hgf, hd with
   | g + 1, hg, hgf, hd =>
   have hm : m = l.length := by obtain ⟨_, _, h⟩ := row_slice hown; injection h
   subst hm
   have HG := Hd hg
   have HGF := Hd hgf
   have HLL := Hd hll
   have HOWN := Hd hown
   have HNB := Hd hnb
   have HSM := Hd hsm
   have HBB := Hd hB
   have HS0 := Hd hs
   have HK := Hd hk
   have HT := Hd (qtake_any wr b n _ hs [125])
   clear hg hgf hll hown hnb hsm hB hs hk
   by_cases hy : Px.sees r [125] = true
   ·
    have hse : (St.live r o k').sees [125] = true := hy
    have htk : (St.live r o k').take [125] = .live r.tail o k' := by unfold St.take; rw [if_pos hse]; rfl
    rw [hse, htk] at HT
    have HD := Hd (hd.trans (stmts_end hy))
    clear hy hse htk hd
    go_wp2_with fail
    refine (HT.out).mono ?_
    rintro e w2 ⟨rfl, hs, hk⟩
    have HS2 := Hd hs
    have HOWN2 := Hd (owned_keep HOWN.out hk (fun g hg hm => by have := (rowOf HOWN.out hg).1; have := HBL.out; simp at hm; omega))
    have HSM2 := Hd (SmC.keep hk (off_lo hb) l cs HSM.out)
    have HK2 := zV HK hk
    have HSZ := Hd hk.size
    clear hs hk
    go_wp2_with fail
    go_ret
    rw [HD.out]
    refine ⟨.slice A l.length c, rfl, ⟨_, _, _, rfl⟩, HK2.out, HS2.out, fun a h => ?_⟩
    obtain rfl := Option.some.inj h
    have hbl := HBL.out
    have hsz := HSZ.out
    exact ⟨fun y => B y ∨ (Value.slice A l.length c).ownBlock = some y, ⟨cs, own_low HOWN2.out (by omega), fun y h => .inr h, SmC.wider (fun y h => .inl h) l cs HSM2.out⟩, fun y hy => by
     rcases hy with hy | hy
     · have := HBB.out y hy; exact ⟨this.1, by omega⟩
     ·
      obtain ⟨q1, cur, q2⟩ := rowOf HOWN2.out hy
      exact ⟨q1, block_lt q2⟩⟩
   ·
    have hn : Px.sees r [125] = false := by simpa using hy
    have hse : (St.live r o k').sees [125] = false := hn
    have htk : (St.live r o k').take [125] = .live r o k' := by unfold St.take; rw [hse]; rfl
    rw [hse, htk] at HT
    match r, hd, hn, HT, HS0, HG, HLL with
    | [], hd, hn, HT, HS0, HG, HLL =>
     have hst : Px.stmt g o k' [] = .err 51 [] := by
      match g, HG with
      | 0, HG => have := HG.out; simp at this
      | g + 1, _ => rw [Px.stmt]; rfl
     have HD := Hd (hd.trans (stmts_err hn hst))
     have HF9 := Hd (fun w' (h : SA w' b n (.live [] o k')) => qfail_any w' b n _ h 51 (by omega) (by omega))
     clear hy hse htk hd hn hst
     go_wp2_with fail
     refine (HT.out).mono ?_
     rintro e w2 ⟨rfl, hs, hk⟩
     have HS2 := Hd hs
     have HK2 := zV HK hk
     obtain ⟨A8, L8, cap8, c0, c1⟩ := hs.empty
     have hge : decide ((L8 : Int) ≤ (L8 : Int)) = true := by simp
     clear hs hk
     go_wp2
     go_region
     go_wp2_with fail
     refine (HF9.out _ (HS2.out.drewN _)).mono ?_
     rintro e w3 ⟨rfl, hs, hk⟩
     have HS3 := Hd hs
     have HK3 := Hd ((HK2.out.drewN _).trans hk (fun _ h _ => h))
     clear hs hk
     go_wp2
     go_ret
     rw [HD.out]
     exact ⟨.slice none 0 0, rfl, ⟨_, _, _, rfl⟩, HK3.out, HS3.out, fun _ h => by cases h⟩
    | t :: r, hd, hn, HT, HS0, HG, HLL =>
     obtain ⟨P, hP⟩ : ∃ P, P = (St.live (t :: r) o k').lift n kS (sstmt g) := ⟨_, rfl⟩
     have HP := Hd hP
     have HU := Hd (fun w' (h' : SA w' b n (.live (t :: r) o k')) (hl : lo < w'.heap.size) => (HE.out g (by have := HGF.out; omega)).stmt w' b n (t :: r) o k' lo h' ho2 hk9 (by have := HG.out; omega) hb hl)
     rw [← hP] at HU
     have HD := Hd hd
     have HN := Hd hn
     clear hy hse htk hd hn hP
     go_wp2_with fail
     refine (HT.out).mono ?_
     rintro e w2 ⟨rfl, hs, hk⟩
     have HS2 := Hd hs
     have HOWN2 := Hd (owned_keep HOWN.out hk (fun g hg hm => by have := (rowOf HOWN.out hg).1; have := HBL.out; simp at hm; omega))
     have HSM2 := Hd (SmC.keep hk (off_lo hb) l cs HSM.out)
     have HK2 := zV HK hk
     have HSZ2 := Hd hk.size
     obtain ⟨g8, off8, L8, cap8, i8, c0, c1, hi8, hL8, hcap8, -, -, -, -, -⟩ := hs.head
     have hlt : decide ((L8 : Int) ≤ (i8 : Int)) = false := by simp; omega
     have hlt' : decide (L8 ≤ i8) = false := by simp; omega
     clear hs hk
     go_wp2
     go_region
     go_wp2_with fail
     refine (HU.out _ (HS2.out.drewN _) (by have := HK2.out.size; simp; omega)).mono ?_
     rintro e w4 ⟨v4, rfl, ⟨vs4, hsh, rfl⟩, hk, hs, ha⟩
     have hkd : Keeps [b] w2 w4 := ((Keeps.refl _ _).drewN _).trans hk (fun _ h _ => h)
     have HA4 := Hd ha
     have HS4 := Hd hs
     have HK4 := zV HK2 hkd
     have HSZ4 := Hd hkd.size
     have HOWN4 := Hd (owned_keep HOWN2.out hkd (fun g hg hm => by have := (rowOf HOWN.out hg).1; have := HBL.out; simp at hm; omega))
     have HSM4 := Hd (SmC.keep hkd (off_lo hb) l cs HSM2.out)
     obtain ⟨kd, sx, sy, qe, qf, qc, Aa, na, ca, At, nt, ct, Al, nl, cl, at_, rfl⟩ := hsh
     have hl5 : l.length ≤ 100000 := by have := HLL.out; omega
     have hwsz : w.heap.size ≤ w4.heap.size := HK4.out.size
     clear hk hkd hs ha c0 c1 hlt hlt' c3
     go_wp2_with (at_builtin; refine wp_app rfl _ _ 24 60 rfl iP (.agg #[.int .i64 0, .string .empty, .string .empty, .pointer none, .pointer none, .pointer none, .slice none 0 0, .slice none 0 0, .slice none 0 0, .int .i64 0]) 10 144 Tryz.underlying24 hP hP0 hP1 hP2 rfl (by decide) (by decide) (.slice A l.length c) l.length w.heap.size cs rfl HOWN4.out 1 [.int .i64 kd, .string sx, .string sy, .pointer qe, .pointer qf, .pointer qc, .slice Aa na ca, .slice At nt ct, .slice Al nl cl, .int .i64 at_] rfl rfl ?qa1 hl5 hwsz ?_)
     case qa1 => intro u hu; simp at hu; rcases hu with rfl | rfl | rfl | rfl | rfl | rfl | rfl | rfl | rfl | rfl <;> rfl
     intro v' w5 hown' hk5 hblk hsz5
     have hown0 := HOWN.out
     have hown4 := HOWN4.out
     have hoff : ∀ (C : Nat → Prop), (∀ y, (Value.slice A l.length c).ownBlock = some y → ¬ C y) → Off w4 lo C (Value.slice A l.length c).ownBlock.toList := fun C hC y hy => .inr (by
      have hy' : (Value.slice A l.length c).ownBlock = some y := by simpa using hy
      obtain ⟨_, cur, hcur⟩ := rowOf hown4 hy'
      exact ⟨hC y hy', NotT.of hcur (by decide), NotT.of hcur (by decide), NotT.of hcur (by decide)⟩)
     have hHi : ∀ y ∈ (Value.slice A l.length c).ownBlock.toList, w.heap.size ≤ y := fun y hy => (rowOf hown4 (by simpa using hy)).1
     have HS5 := Hd (HS4.out.keepHi hk5 (fun y hy => by have := hHi y hy; have := HBL.out; omega))
     have HK5 := Hd (HK4.out.hi hk5 hHi)
     have HSM5 := Hd (SmC.keep hk5 (hoff B HNB.out) l cs HSM4.out)
     have HSZ9 := Hd (HSZ2.out)
     have HNEW := Hd (show ∀ p, P.1 = some p → ∃ B1 : Nat → Prop, SmC w5 lo (fun y => B y ∨ B1 y) (l ++ [p.1]) (cs ++ [.int .i64 kd, .string sx, .string sy, .pointer qe, .pointer qf, .pointer qc, .slice Aa na ca, .slice At nt ct, .slice Al nl cl, .int .i64 at_]) ∧ (∀ y, v'.ownBlock = some y → ¬ (B y ∨ B1 y)) ∧ ∀ y, (B y ∨ B1 y) → w.heap.size ≤ y ∧ y < w5.heap.size from fun p hp => by
      obtain ⟨vs1, B1, hv1, hsm1, hB1⟩ := HA4.out p hp
      have hvv : vs1 = [.int .i64 kd, .string sx, .string sy, .pointer qe, .pointer qf, .pointer qc, .slice Aa na ca, .slice At nt ct, .slice Al nl cl, .int .i64 at_] := by
       injection hv1 with hv1
       have := congrArg Array.toList hv1
       simpa using this.symm
      subst hvv
      have h2 := HSZ2.out
      have h4 := HSZ4.out
      simp only [World.heap_drewN] at hB1
      have hC1 : ∀ y, (Value.slice A l.length c).ownBlock = some y → ¬ B1 y := fun y hy h => by
       obtain ⟨_, cur, hcur⟩ := rowOf hown0 hy
       have := block_lt hcur
       have := (hB1 y h).1
       omega
      refine ⟨B1, SmC.snoc (SmAt.wider (B' := fun y => B y ∨ B1 y) (fun y h => .inr h) _ _ (SmAt.keep hk5 (hoff B1 hC1) _ _ hsm1)) l cs (SmC.wider (fun y h => .inl h) l cs HSM5.out), fun y hy h => ?_, fun y h => ?_⟩
      ·
       rcases hblk with hb | hb
       ·
        rw [hb] at hy
        rcases h with h | h
        · exact HNB.out y hy h
        · exact hC1 y hy h
       ·
        rw [hb] at hy
        obtain rfl : w4.heap.size + 1 = y := by simpa using hy
        rcases h with h | h
        · have := (HBB.out _ h).2; omega
        · have := (hB1 _ h).2; omega
      ·
       rcases h with h | h
       · have := HBB.out y h; exact ⟨this.1, by omega⟩
       · have := hB1 y h; have h8 := HK.out.size; exact ⟨by omega, by omega⟩)
     have HOWN5 := Hd hown'
     obtain ⟨A', c', hv'⟩ := row_slice hown'
     subst hv'
     clear hown' hk5 hblk hoff hown0 hown4 hl5 hwsz hsz5 hHi
     go_wp2_with fail
     go_roundw
     ·
      refine ⟨⟨_, _, _, rfl⟩, HK5.out, _, HS5.out, ?_⟩
      rcases lift_kcases n kS (sstmt g) (t :: r) o k' with ⟨a, r2, h1, h2⟩ | ⟨z, r2, h1, h2⟩
      ·
       have hPE := HP.out.trans h2
       obtain ⟨B1, q1, q2, q3⟩ := HNEW.out a (by rw [hPE])
       have hll := (Px.sm_len g).1 _ _ _ _ _ (show Px.stmt g o k' (t :: r) = .ok a r2 from h1)
       have hlk := (sm_k g).1 _ _ _ _ _ (show Px.stmt g o k' (t :: r) = .ok a r2 from h1)
       rw [hPE]
       refine .inl ⟨g, a.2, l ++ [a.1], r2, _, _, rfl, by omega, by have := HG.out; omega, by have := HGF.out; omega, by have := HLL.out; simp at this ⊢; simp at hll; omega, ?_, q2, q1, q3, HD.out.trans (stmts_next HN.out h1)⟩
       rw [List.length_append]; exact HOWN5.out
      ·
       have hPE := HP.out.trans h2
       rw [hPE]
       exact .inr ⟨z, _, rfl, HD.out.trans (stmts_err HN.out h1)⟩
     ·
      rw [HS5.out.rank, HS0.out.rank, HP.out]
      rcases lift_kcases n kS (sstmt g) (t :: r) o k' with ⟨a, r2, h1, h2⟩ | ⟨z, r2, h1, h2⟩
      ·
       rw [h2]
       have hll := (Px.sm_len g).1 _ _ _ _ _ (show Px.stmt g o k' (t :: r) = .ok a r2 from h1)
       simp only [St.rank]; omega
      ·
       rw [h2]
       show 0 < 1 + _
       omega
  ·
   have c3' : wr.cell? ⟨b, 3, none⟩ = some (.int .i64 (z : Int)) := c3
   have hz : ((z : Int) == 0) = false := by have := hs.1; simp; omega
   have hz' : decide ((z : Int) = 0) = false := by have := hs.1; simp; omega
   have HS1 := Hd hs
   have HK1 := Hd hk
   have HR1 := Hd hR
   clear c3 hs hk hR
   go_wp2
   go_ret
   exact ⟨.slice A m c, rfl, ⟨_, _, _, rfl⟩, HK1.out, by rw [HR1.out]; exact HS1.out, fun a h => by rw [HR1.out] at h; cases h⟩
theorem qstmts_dead (w : World) (b n z p o lo : Nat) (h : SA w b n (.dead z p o)) :
 Calls Tryz.prog 42 #[pp b] w (QS (SsAt w.heap.size) IsSl lo w b n (none, .dead z p o)) := by
 have hz : ((z : Int) == 0) = false := by have := h.1; simp; omega
 have hz' : decide ((z : Int) = 0) = false := by have := h.1; simp; omega
 have c3 : w.cell? ⟨b, 3, none⟩ = some (.int .i64 (z : Int)) := h.flag
 have HS := Hd h
 clear h
 go_enter Tryz.func42, Tryz.ntmps42
 go_wp2
 go_loop [3] (fun ev => ev = .slice none 0 0) (fun _ => 0)
 case atStart => rfl
 case round =>
  subst hrel
  go_wp2
  go_ret
  exact ⟨.slice none 0 0, rfl, ⟨_, _, _, rfl⟩, Keeps.refl _ _, HS.out, fun _ h => by cases h⟩
theorem qsc : ∀ f, QSC f := fun f => by
 induction f using Nat.strongRecOn with
 | _ f ih =>
  match f, ih with
  | 0, _ =>
   refine ⟨fun w b n ts o k lo h ho hk hf hb hlo => by omega, fun w b n σ lo h hf hfew hb hlo => ?_, fun w b n σ lo h hf hfew hb hlo => ?_⟩
   ·
    cases σ with
    | live ts o k => have := hf.2; omega
    | dead z p o => exact qblock_no 0 w b n _ lo h rfl
   ·
    cases σ with
    | live ts o k => have := hf.2; omega
    | dead z p o => exact qstmts_dead w b n z p o lo h
  | f + 1, ih =>
   have hle : ∀ g, g ≤ f → QSC g := fun g hg => ih g (by omega)
   refine ⟨fun w b n ts o k lo h ho hk hf hb hlo => qstmt_step f (hle f (Nat.le_refl _)) w b n ts o k lo h ho hk hf hb hlo, fun w b n σ lo h hf hfew hb hlo => ?_, fun w b n σ lo h hf hfew hb hlo => ?_⟩
   ·
    cases hs : σ.sees [123] with
    | false => rw [block_no' hs]; exact qblock_no f w b n σ lo h hs
    | true =>
     cases σ with
     | dead z p o => cases hs
     | live ts o k =>
      have hs : Px.sees ts [123] = true := hs
      by_cases ho : 40 ≤ o
      · rw [block_deep' hs ho]; exact qblock_deep w b n ts o k lo h hs ho hf.1
      ·
       rw [block_ok' hs ho]
       obtain ⟨t, r, rfl, -⟩ := sees_cons (by simp) hs
       have hl := hf.2
       simp only [List.length_cons] at hl
       exact qblock_ok f w b n t r o k lo h hs ho hb hlo (fun w1 h1 hl1 => (hle f (Nat.le_refl _)).stmts w1 b n _ lo h1 ⟨by omega, by omega⟩ hfew hb hl1)
   ·
    cases σ with
    | live ts o k => exact qstmts_live f w b n ts o k lo h hf.1 hfew hf.2 hb hlo hle
    | dead z p o => exact qstmts_dead w b n z p o lo h
end
section
set_option maxHeartbeats 2000000
set_option maxRecDepth 100000
open Go.RowKit Go.Shelf
open Lx (Tok Tx)
open Px (Ex Cn Sm Vr)
def dcl (n m j : Nat) (σ : St) : St := if σ.named && decide (m ≤ j) then σ.fail n 53 else σ.name n
abbrev vparams (f : Nat) : List Tok → Nat → Nat → Px.R (List Vr) := fun ts _ _ => Px.paramsL f [] ts
abbrev vparamsM (g : Nat) (l : List Vr) : List Tok → Nat → Nat → Px.R (List Vr) := fun ts _ _ => (Px.param l.length ts).bind fun e r => Px.paramsL g (l ++ [e]) r
abbrev vlocals (g : Nat) (l : List Vr) : List Tok → Nat → Nat → Px.R (List Vr) := fun ts _ _ => Px.localsL g l ts
theorem dcl_cases {n m j o k : Nat} {ts : List Tok} :
 (Px.isName ts = true ∧ j < m ∧ Px.declR j m ts = .ok (Px.txt ts 0) ts.tail ∧ dcl n m j (.live ts o k) = .live ts.tail o k) ∨ (∃ z, Px.declR j m ts = .err z ts ∧ dcl n m j (.live ts o k) = .dead z (Px.place n ts) o) := by
 cases hn : Px.isName ts with
 | true =>
  have hnm : (St.live ts o k).named = true := hn
  by_cases hj : j < m
  ·
   refine .inl ⟨rfl, hj, by unfold Px.declR; rw [if_pos hn, if_pos hj], ?_⟩
   unfold dcl
   rw [hnm, show decide (m ≤ j) = false by simp; omega]
   exact St.name_live hn
  ·
   refine .inr ⟨53, by unfold Px.declR; rw [if_pos hn, if_neg hj], ?_⟩
   unfold dcl
   rw [hnm, show decide (m ≤ j) = true by simp; omega]
   rfl
 | false =>
  have hnm : (St.live ts o k).named = false := hn
  refine .inr ⟨51, by unfold Px.declR; rw [if_neg (by simp [hn])], ?_⟩
  unfold dcl
  rw [hnm]
  exact St.name_no hn
theorem params_none {n f o k : Nat} {ts : List Tok} (h : Px.sees ts [41] = true) : (St.live ts o k).lift n kI (vparams (f + 1)) = (some [], .live ts.tail o k) := by
 have hu : Px.paramsL (f + 1) [] ts = .ok [] ts.tail := by rw [Px.paramsL]; simp only [h]; rfl
 rw [St.lift_ok (g := vparams (f + 1)) hu]; rfl
theorem params_some {n f : Nat} {σ : St} (h : σ.sees [41] = false) : σ.lift n kI (vparams (f + 1)) = σ.lift n kI (vparamsM f []) := by
 cases σ with
 | dead z p o => rfl
 | live ts o k =>
  have h : Px.sees ts [41] = false := h
  have hu : Px.paramsL (f + 1) [] ts = (Px.param 0 ts).bind fun e r => Px.paramsL f ([] ++ [e]) r := by rw [Px.paramsL]; simp only [h]; rfl
  simp only [St.lift, vparams, vparamsM, hu]; rfl
section
variable {n g o k : Nat} {l : List Vr} {ts r : List Tok} {e : Vr}
theorem paramsM_err {z : Nat} (h : Px.param l.length ts = .err z r) : (St.live ts o k).lift n kI (vparamsM g l) = (none, .dead z (Px.place n r) o) := by
 rw [St.lift_err (g := vparamsM g l) (show vparamsM g l ts o k = .err z r by show (Px.param l.length ts).bind _ = _; rw [h]; rfl)]
theorem paramsM_end (h : Px.param l.length ts = .ok e r) (hs : Px.sees r [41] = true) : (St.live ts o k).lift n kI (vparamsM (g + 1) l) = (some (l ++ [e]), .live r.tail o k) := by
 rw [St.lift_ok (g := vparamsM (g + 1) l) (show vparamsM (g + 1) l ts o k = .ok (l ++ [e]) r.tail by
  show (Px.param l.length ts).bind _ = _; rw [h]
  show Px.paramsL (g + 1) (l ++ [e]) r = _
  rw [Px.paramsL]; simp only [hs]; rfl)]; rfl
theorem paramsM_next (h : Px.param l.length ts = .ok e r) (hs : Px.sees r [41] = false) (hc : Px.sees r [44] = true) : (St.live ts o k).lift n kI (vparamsM (g + 1) l) = (St.live r.tail o k).lift n kI (vparamsM g (l ++ [e])) := by
 have hu : vparamsM (g + 1) l ts o k = vparamsM g (l ++ [e]) r.tail o k := by
  show (Px.param l.length ts).bind _ = _; rw [h]
  show Px.paramsL (g + 1) (l ++ [e]) r = _
  rw [Px.paramsL]; simp only [hs]
  rw [if_neg (by simp), if_neg (by simp), want_ok hc]
 simp only [St.lift, hu]
theorem paramsM_bad (h : Px.param l.length ts = .ok e r) (hs : Px.sees r [41] = false) (hc : Px.sees r [44] = false) : (St.live ts o k).lift n kI (vparamsM (g + 1) l) = (none, .dead 51 (Px.place n r) o) := by
 rw [St.lift_err (g := vparamsM (g + 1) l) (show vparamsM (g + 1) l ts o k = .err 51 r by
  show (Px.param l.length ts).bind _ = _; rw [h]
  show Px.paramsL (g + 1) (l ++ [e]) r = _
  rw [Px.paramsL]; simp only [hs]
  rw [if_neg (by simp), if_neg (by simp), want_bad hc])]
end
theorem param_cases {n j o k : Nat} {ts : List Tok} :
 (∃ r, r.length + 1 ≤ ts.length ∧ Px.param j ts = .ok (Px.txt (if Px.sees ts [42] then ts.tail else ts) 0, Px.sees ts [42]) r ∧ Px.isName (if Px.sees ts [42] then ts.tail else ts) = true ∧ j < 6 ∧ (St.live ts o k).take [42] = .live (if Px.sees ts [42] then ts.tail else ts) o k ∧ dcl n 6 j ((St.live ts o k).take [42]) = .live r o k) ∨
 (∃ z r, Px.param j ts = .err z r ∧ dcl n 6 j ((St.live ts o k).take [42]) = .dead z (Px.place n r) o) := by
 have htk : (St.live ts o k).take [42] = .live (if Px.sees ts [42] then ts.tail else ts) o k := by
  unfold St.take
  by_cases h : Px.sees ts [42] = true
  · rw [if_pos (show (St.live ts o k).sees [42] = true from h), if_pos h]; rfl
  · rw [if_neg (show ¬ (St.live ts o k).sees [42] = true from h), if_neg h]
 rw [htk]
 obtain ⟨q, hq⟩ : ∃ q, q = (if Px.sees ts [42] then ts.tail else ts) := ⟨_, rfl⟩
 rw [← hq]
 have hql : q.length ≤ ts.length := by rw [hq]; split <;> simp
 have hp : Px.param j ts = (Px.declR j 6 q).bind fun s r => .ok (s, Px.sees ts [42]) r := by
  unfold Px.param
  rw [hq]
  cases Px.sees ts [42] <;> rfl
 rcases dcl_cases (n := n) (m := 6) (j := j) (o := o) (k := k) (ts := q) with ⟨h1, h2, h3, h4⟩ | ⟨z, h3, h4⟩
 ·
  obtain ⟨t, r, rfl⟩ := isName_cons h1
  refine .inl ⟨r, by simpa using hql, ?_, h1, h2, rfl, h4⟩
  rw [hp, h3]; rfl
 ·
  refine .inr ⟨z, q, ?_, h4⟩
  rw [hp, h3]; rfl
def MoreP (w : World) (b n : Nat) (σ : St) (l : List Vr) (v : Value) (base : Nat) (q : Bool) (m : Nat) (e : Ending) (w' : World) : Prop :=
 ∃ v', e = .returned v' ∧ IsSl v' ∧ Keeps (b :: v.ownBlock.toList) w w' ∧ SA w' b n (dcl n m l.length σ) ∧ ∃ l', w'.ownsRow base 123 2 v' l'.length (varCells l') ∧ l'.length ≤ l.length + 1 ∧ ∀ ts o k, σ = .live ts o k → Px.isName ts = true → l.length < m → l' = l ++ [(Px.txt ts 0, q)]
theorem qmore_any (w : World) (b n : Nat) (σ : St) (h : SA w b n σ) (l : List Vr) (v : Value) (base : Nat) (hown : w.ownsRow base 123 2 v l.length (varCells l)) (hbase : b < base ∧ base ≤ w.heap.size) (hl : l.length ≤ 5000) (q : Bool) (m : Nat) (hm : m ≤ 1000) :
 Calls Tryz.prog 38 #[pp b, v, .bool q, .int .i64 (m : Int)] w (MoreP w b n σ l v base q m) := by
 obtain ⟨A, c, rfl⟩ := row_slice hown
 have HNM := Hd (qnamed_any w b n σ h)
 have HS := Hd h
 have HOWN := Hd hown
 obtain ⟨iP, hP, hP0, hP1, hP2⟩ := info_parts infoVar
 have hge1 : ∀ x : Bool, x = decide (m ≤ l.length) → x = decide ((m : Int) ≤ (l.length : Int)) := fun x h => by rw [h]; simp
 by_cases hfull : σ.named = true ∧ m ≤ l.length
 ·
  have hd : dcl n m l.length σ = σ.fail n 53 := by unfold dcl; rw [hfull.1]; simp [hfull.2]
  have HD := Hd hd
  have HF := Hd (fun w' (h : SA w' b n σ) => qfail_any w' b n σ h 53 (by omega) (by omega))
  have HFULL := Hd hfull
  rw [hfull.1] at HNM
  have hc1 : decide ((m : Int) ≤ ((l.length : Nat) : Int)) = true := by simp; omega
  have hc2 : decide (m ≤ l.length) = true := by simp; omega
  clear h hown hd hfull hge1
  go_enter Tryz.func38, Tryz.ntmps38
  go_wp2_with fail
  refine (HNM.out).mono ?_
  rintro e w1 ⟨rfl, hk⟩
  have HK := Hd hk
  clear hk
  go_wp2_with fail
  refine (HF.out _ (HS.out.keep HK.out)).mono ?_
  rintro e w2 ⟨rfl, hs, hk⟩
  have HS := Hd hs
  have HK2 := Hd ((HK.out.mono (T := [b]) (by simp)).trans hk (fun _ h _ => h))
  clear hs hk
  go_wp2
  go_ret
  have hfull := HFULL.out
  exact ⟨.slice A l.length c, rfl, ⟨_, _, _, rfl⟩, HK2.out.mono (by simp), by rw [HD.out]; exact HS.out, l, owned_keep HOWN.out HK2.out (fun g hg hm => by have := (rowOf HOWN.out hg).1; simp at hm; omega), by omega, fun ts o k h1 h2 h3 => by omega⟩
 ·
  have hd : dcl n m l.length σ = σ.name n := by
   unfold dcl
   cases hn : σ.named with
   | false => rfl
   | true => rw [show decide (m ≤ l.length) = false by simp; exact Nat.lt_of_not_le (fun h => hfull ⟨hn, h⟩)]; rfl
  have HD := Hd hd
  have HNA := Hd (fun w' (h : SA w' b n σ) => qname_any w' b n σ h)
  have hl5 : l.length ≤ 100000 := by omega
  have key : ∀ (nm : Bool), σ.named = nm → (nm = true → decide ((m : Int) ≤ ((l.length : Nat) : Int)) = false ∧ decide (m ≤ l.length) = false) → Calls Tryz.prog 38 #[pp b, .slice A l.length c, .bool q, .int .i64 (m : Int)] w (MoreP w b n σ l (.slice A l.length c) base q m) := by
   intro nm hnm hcc
   rw [hnm] at HNM
   cases nm
   all_goals
    try obtain ⟨hc1, hc2⟩ := hcc rfl
    clear h hown hd hfull hge1 hnm
    go_enter Tryz.func38, Tryz.ntmps38
    go_wp2_with fail
    refine (HNM.out).mono ?_
    rintro e w1 ⟨rfl, hk⟩
    have HK := Hd hk
    clear hk
    go_wp2_with fail
    refine (HNA.out _ (HS.out.keep HK.out)).mono ?_
    rintro e w2 ⟨⟨s, rfl, hnm⟩, hs, hk⟩
    have HS := Hd hs
    have HN := Hd hnm
    have HK2 := Hd ((HK.out.mono (T := [b]) (by simp)).trans hk (fun _ h _ => h))
    have HOWN2 := Hd (owned_keep HOWN.out HK2.out (fun g hg hm => by have := (rowOf HOWN.out hg).1; simp at hm; omega))
    have hwsz : base ≤ w2.heap.size := by have := HK2.out.size; omega
    clear hs hk hnm
    go_wp2_with (at_builtin; refine wp_app rfl _ _ 23 123 rfl iP (.agg #[.string .empty, .bool false]) 2 24 Tryz.underlying23 hP hP0 hP1 hP2 rfl (by decide) (by decide) (.slice A l.length c) l.length base (varCells l) rfl HOWN2.out 1 [.string (strO s), .bool q] rfl rfl ?qa1 hl5 hwsz ?_)
    case qa1 => intro u hu; simp at hu; rcases hu with rfl | rfl <;> rfl
    intro v' w5 hown' hk5 _ hsz5
    have hHi : ∀ y ∈ (Value.slice A l.length c).ownBlock.toList, base ≤ y := fun y hy => (rowOf HOWN2.out (by simpa using hy)).1
    have HS5 := Hd (HS.out.keepHi hk5 (fun y hy => by have := hHi y hy; omega))
    have HK5 := Hd ((HK2.out.mono (T := b :: (Value.slice A l.length c).ownBlock.toList) (by simp)).trans hk5 (fun i hi _ => List.mem_cons_of_mem _ hi))
    have HOWN5 := Hd hown'
    obtain ⟨A', c', hv'⟩ := row_slice hown'
    subst hv'
    clear hown' hk5 hHi hwsz hsz5
    go_wp2
    go_ret
    refine ⟨.slice A' (l.length + 1) c', rfl, ⟨_, _, _, rfl⟩, HK5.out, by rw [HD.out]; exact HS5.out, l ++ [(s, q)], ?_, by simp, fun ts o k h1 h2 h3 => ?_⟩
    · rw [varCells_snoc, List.length_append]; exact HOWN5.out
    · rw [HN.out ts o k h1 h2]
  exact key σ.named rfl (fun h => by
   have : ¬ m ≤ l.length := fun h2 => hfull ⟨h, h2⟩
   exact ⟨by simp; omega, by simp; omega⟩)
end
section
open Go.RowKit Go.Shelf
open Lx (Tok Tx)
open Px (Ex Cn Sm Vr)
open Reg (Is Fact)
attribute [local go_sem] Reg.wantedV Reg.gives_value Reg.gives_skip Reg.gives_enter
theorem locals_done {n g : Nat} {σ : St} {l : List Vr} (h0 : σ.sees [118, 97, 114] = false) (h1 : σ.sees [112, 116, 114] = false) : σ.lift n kI (vlocals (g + 1) l) = (σ.gate (some l), σ) := by
 cases σ with
 | dead z p o => rfl
 | live ts o k =>
  have h0 : Px.sees ts [118, 97, 114] = false := h0
  have h1 : Px.sees ts [112, 116, 114] = false := h1
  rw [St.lift_ok (g := vlocals (g + 1) l) (show Px.localsL (g + 1) l ts = .ok l ts by rw [Px.localsL]; simp only [h0, h1]; rfl)]; rfl
theorem locals_step {n g o k : Nat} {ts : List Tok} {l : List Vr} (h : Px.sees ts [118, 97, 114] = true ∨ Px.sees ts [112, 116, 114] = true) :
 (∃ r, r.length + 3 ≤ ts.length ∧ Px.isName ts.tail = true ∧ l.length < 20 ∧ (dcl n 20 l.length (.live ts.tail o k)).want n [59] = .live r o k ∧ (St.live ts o k).lift n kI (vlocals (g + 1) l) = (St.live r o k).lift n kI (vlocals g (l ++ [(Px.txt ts.tail 0, Px.sees ts [112, 116, 114])]))) ∨
 (∃ z p, (dcl n 20 l.length (.live ts.tail o k)).want n [59] = .dead z p o ∧ (St.live ts o k).lift n kI (vlocals (g + 1) l) = (none, .dead z p o)) := by
 have hu : Px.localsL (g + 1) l ts = (Px.declR l.length 20 ts.tail).bind fun s r => Px.want [59] r fun r => Px.localsL g (l ++ [(s, Px.sees ts [112, 116, 114])]) r := by
  rw [Px.localsL]
  rw [if_pos (by rcases h with h | h <;> simp [h])]
 obtain ⟨t, r0, rfl⟩ : ∃ t r, ts = t :: r := by
  rcases h with h | h
  · obtain ⟨t, r, h, _⟩ := sees_cons (by simp) h; exact ⟨t, r, h⟩
  · obtain ⟨t, r, h, _⟩ := sees_cons (by simp) h; exact ⟨t, r, h⟩
 simp only [List.tail_cons] at hu ⊢
 rcases dcl_cases (n := n) (m := 20) (j := l.length) (o := o) (k := k) (ts := r0) with ⟨h1, h2, h3, h4⟩ | ⟨z, h3, h4⟩
 ·
  rw [h3] at hu
  simp only [Px.bind_ok] at hu
  rw [h4]
  obtain ⟨t1, r1, rfl⟩ := isName_cons h1
  simp only [List.tail_cons] at hu ⊢
  cases hc : Px.sees r1 [59] with
  | true =>
   rw [want_ok hc] at hu
   have := sees_tail hc
   refine .inl ⟨r1.tail, by simp at this ⊢; omega, h1, h2, St.want_live hc, ?_⟩
   simp only [St.lift, vlocals, hu]
  | false =>
   rw [want_bad hc] at hu
   exact .inr ⟨51, _, St.want_no hc, by rw [St.lift_err (g := vlocals (g + 1) l) hu]⟩
 ·
  rw [h3] at hu
  rw [h4]
  exact .inr ⟨z, _, rfl, by rw [St.lift_err (g := vlocals (g + 1) l) hu]⟩
def brace (n : Nat) (σ : St) : St := if σ.sees [123] then σ.adv.depthTo 1 else σ.fail n 51
def fnGot (n : Nat) (nm : Tx) (ps : Option (List Vr)) (ls : Option (List Vr)) (b : Option (List Sm × Nat)) : St → Px.Got (Px.Fn × Nat)
 | .live [] _ _ => ⟨ps.bind fun ps => ls.bind fun ls => b.map fun p => (⟨nm, ps, ls, p.1⟩, p.2), 0, 0⟩
 | .live (t :: _) _ _ => ⟨none, t.at_, 51⟩
 | .dead z p _ => ⟨none, p, z⟩
theorem func_eq {n f : Nat} {ts : List Tok} {σ3 : St} {PP LL : Option (List Vr) × St} {BB : Option (List Sm × Nat) × St} (h3 : σ3 = (((St.live ts 0 0).want n [102, 110]).name n).want n [40]) (hP : PP = σ3.lift n kI (vparams f)) (hL : LL = (brace n PP.2).lift n kI (vlocals f [])) (hB : BB = LL.2.lift n kS (sstmts f [])) :
 Px.top n (Px.funcR f ts) = fnGot n (Px.txt ts.tail 0) PP.1 LL.1 BB.1 BB.2 := by
 have dd : ∀ {z p o : Nat}, PP = (none, .dead z p o) → fnGot n (Px.txt ts.tail 0) PP.1 LL.1 BB.1 BB.2 = ⟨none, p, z⟩ := fun {z p o} h => by
  subst hB hL h; rfl
 unfold Px.funcR
 cases h1 : Px.sees ts [102, 110] with
 | false => rw [want_bad h1]; rw [dd (by rw [hP, h3, St.want_no h1]; rfl)]; rfl
 | true =>
  rw [want_ok h1]
  rw [St.want_live h1] at h3
  unfold Px.nameR
  cases h2 : Px.isName ts.tail with
  | false => rw [if_neg (by simp)]; rw [St.name_no h2] at h3; rw [dd (by rw [hP, h3]; rfl)]; rfl
  | true =>
   rw [if_pos rfl, Px.bind_ok]
   rw [St.name_live h2] at h3
   unfold Px.params
   cases h4 : Px.sees ts.tail.tail [40] with
   | false => rw [want_bad h4]; rw [St.want_no h4] at h3; rw [dd (by rw [hP, h3]; rfl)]; rfl
   | true =>
    rw [want_ok h4]
    rw [St.want_live h4] at h3
    subst h3
    rcases St.lift_cases n (vparams f) ts.tail.tail.tail 0 0 with ⟨ps, r, e1, e2⟩ | ⟨z, r, e1, e2⟩
    ·
     rw [show Px.paramsL f [] ts.tail.tail.tail = _ from e1, Px.bind_ok]
     rw [e2] at hP; subst hP
     cases h5 : Px.sees r [123] with
     | false =>
      have hb : brace n (.live r 0 0) = .dead 51 (Px.place n r) 0 := by unfold brace; rw [if_neg (by rw [show (St.live r 0 0).sees [123] = Px.sees r [123] from rfl, h5]; simp)]; rfl
      simp only [hb] at hL
      subst hL; subst hB; rfl
     | true =>
      have hb : brace n (.live r 0 0) = .live r.tail 1 0 := by unfold brace; rw [if_pos (show (St.live r 0 0).sees [123] = true from h5)]; rfl
      simp only [hb] at hL
      rw [if_pos rfl]
      unfold Px.inner
      rcases St.lift_cases n (vlocals f []) r.tail 1 0 with ⟨ls, r2, e3, e4⟩ | ⟨z, r2, e3, e4⟩
      ·
       rw [show Px.localsL f [] r.tail = _ from e3, Px.bind_ok]
       rw [e4] at hL; subst hL
       have hcut : ((Px.stmts f 1 0 [] r2).bind fun p r => .ok ((ls, p.1), p.2) r).bind (fun p r => Px.want [125] r fun r => .ok ((⟨Px.txt ts.tail 0, ps, p.1.1, p.1.2⟩, p.2) : Px.Fn × Nat) r) = (sstmts f [] r2 1 0).bind fun p r => .ok ((⟨Px.txt ts.tail 0, ps, ls, p.1⟩, p.2) : Px.Fn × Nat) r := by
        show _ = ((Px.stmts f 1 0 [] r2).bind fun p r => Px.want [125] r fun r => .ok p r).bind _
        cases Px.stmts f 1 0 [] r2 with
        | err z r => rfl
        | ok p r =>
         simp only [Px.bind_ok]
         cases hc : Px.sees r [125] with
         | true => rw [want_ok hc, want_ok hc]; rfl
         | false => rw [want_bad hc, want_bad hc]; rfl
       rw [hcut]
       rcases lift_kcases n kS (sstmts f []) r2 1 0 with ⟨p, r3, e5, e6⟩ | ⟨z, r3, e5, e6⟩
       ·
        rw [e5, Px.bind_ok]
        simp only at hB
        rw [e6] at hB; subst hB
        match r3 with
        | [] => rfl
        | _ :: _ => rfl
       ·
        rw [e5]
        simp only at hB
        rw [e6] at hB; subst hB; rfl
      ·
       rw [show Px.localsL f [] r.tail = _ from e3]
       rw [e4] at hL; subst hL; subst hB; rfl
    ·
     rw [show Px.paramsL f [] ts.tail.tail.tail = _ from e1]
     rw [dd (by rw [hP, e2])]; rfl
end
end Go.Proofs.YtbikifibfaaggaaGreatDoor
