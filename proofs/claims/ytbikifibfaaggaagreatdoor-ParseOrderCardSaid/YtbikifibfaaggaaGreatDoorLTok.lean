/- Tokens in memory; the lexer, whole. -/
import Derived.Test.YtbikifibfaaggaaGreatDoorLRead
namespace Go.Proofs.YtbikifibfaaggaaGreatDoor
open Go.RowKit Go.Shelf

theorem cell_new {w : World} {cs : Array Value} {t : TypeId} (j : Nat) : (w.alloc (.cells cs t)).cell? ⟨w.heap.size, j, none⟩ = cs[j]? := cell_of_row _ _ _ _ _ _ (heap_alloc_new w _)
/-- A slice of tokens in block g that reads as ts. -/
def ToksIn (w : World) (g : Nat) (A : Option Addr) (ts : List Lx.Tok) : Prop :=
  ts = [] ∨ ∃ off, A = some ⟨g, off, none⟩ ∧ ∀ k (hk : k < ts.length), w.cell? ⟨g, off + k * 3, none⟩ = some (.int .i64 ((ts[k].kind : Nat) : Int)) ∧ w.cell? ⟨g, off + k * 3 + 1, none⟩ = some (.string (strO ts[k].text)) ∧ w.cell? ⟨g, off + k * 3 + 2, none⟩ = some (.int .i64 ((ts[k].at_ : Nat) : Int))
theorem ToksIn.keep {S : List Nat} {w w' : World} {g : Nat} {A : Option Addr} {l : List Lx.Tok} (h : ToksIn w g A l) (hk : Keeps S w w') (hn : g ∉ S) : ToksIn w' g A l := by
  rcases h with h | ⟨off, hA, hc⟩
  · exact .inl h
  · exact .inr ⟨off, hA, fun k hl => ⟨hk.cell_some (hc k hl).1 hn, hk.cell_some (hc k hl).2.1 hn, hk.cell_some (hc k hl).2.2 hn⟩⟩
def tcells (ts : List Lx.Tok) : List Value := ts.flatMap fun c => [.int .i64 ((c.kind : Nat) : Int), .string (strO c.text), .int .i64 ((c.at_ : Nat) : Int)]
theorem tcells_len (cs : List Lx.Tok) : (tcells cs).length = cs.length * 3 := by
  induction cs with
  | nil => rfl
  | cons c cs ih => simp only [tcells, List.flatMap_cons, List.length_append, List.length_cons, List.length_nil] at ih ⊢; omega
theorem tcells_get : ∀ (cs : List Lx.Tok) (k : Nat) (hk : k < cs.length), (tcells cs)[k * 3]? = some (.int .i64 ((cs[k].kind : Nat) : Int)) ∧ (tcells cs)[k * 3 + 1]? = some (.string (strO cs[k].text)) ∧ (tcells cs)[k * 3 + 2]? = some (.int .i64 ((cs[k].at_ : Nat) : Int))
  | [], k, hk => by simp at hk
  | c :: cs, 0, _ => ⟨rfl, rfl, rfl⟩
  | c :: cs, k + 1, hk => by
    have h := tcells_get cs k (by simpa using hk)
    have e : tcells (c :: cs) = [.int .i64 ((c.kind : Nat) : Int), .string (strO c.text), .int .i64 ((c.at_ : Nat) : Int)] ++ tcells cs := rfl
    have e0 : (k + 1) * 3 = k * 3 + 3 := by omega
    rw [e, e0]
    refine ⟨?_, ?_, ?_⟩
    · rw [List.getElem?_append_right (by simp)]; simpa using h.1
    · rw [List.getElem?_append_right (by simp)]; simpa using h.2.1
    · rw [List.getElem?_append_right (by simp)]; simpa using h.2.2
theorem tcells_snoc (cs : List Lx.Tok) (c : Lx.Tok) : tcells (cs ++ [c]) = tcells cs ++ [.int .i64 ((c.kind : Nat) : Int), .string (strO c.text), .int .i64 ((c.at_ : Nat) : Int)] := by simp [tcells]
theorem toks_of_own {w : World} {base : Nat} {t : TypeId} {v : Value} {cs : List Lx.Tok} (h : w.ownsRow base t 3 v cs.length (tcells cs)) : ∃ A c g, v = .slice A cs.length c ∧ ToksIn w g A cs ∧ (cs ≠ [] → base ≤ g) := by
  rcases h.2 with ⟨rfl, h0⟩ | ⟨g, cap, cur, rfl, hb, hg, hn, hm, hcs, ht⟩
  · have h0' : cs = [] := List.eq_nil_of_length_eq_zero h0
    exact ⟨none, 0, 0, by rw [h0], .inl h0', fun hne => absurd h0' hne⟩
  · refine ⟨_, cap, g, rfl, .inr ⟨0, rfl, fun k hk => ?_⟩, fun _ => hb⟩
    have hx : ∀ j, j < cs.length * 3 → w.cell? ⟨g, j, none⟩ = (tcells cs)[j]? := fun j hj => by
      rw [row_cell hg, ← ht, List.getElem?_take, if_pos hj, Array.getElem?_toList]
    obtain ⟨q1, q2, q3⟩ := tcells_get cs k hk
    rw [Nat.zero_add]
    exact ⟨by rw [hx _ (by omega)]; exact q1, by rw [hx _ (by omega)]; exact q2, by rw [hx _ (by omega)]; exact q3⟩
theorem infoTok : (Tryz.prog.info? 53).map (fun i => (i.zero, i.size, i.bytes)) = some (some (.agg #[.int .i64 0, .string .empty, .int .i64 0]), 3, 32) := by kernel_rfl
theorem owned_keep3 {w w' : World} {base : Nat} {e : TypeId} {size n : Nat} {v : Value} {xs : List Value} (h : w.ownsRow base e size v n xs) (hk : Keeps [] w w') : w'.ownsRow base e size v n xs := owned_keep h hk (fun _ _ h => by cases h)
theorem Keeps.fresh {S : List Nat} {w a b : World} (h : Keeps [] w a) (k : Keeps S a b) (hs : ∀ x ∈ S, w.heap.size ≤ x) : Keeps [] w b :=
  ((h.mono (T := S) (by simp)).trans k (fun _ hi _ => hi)).mono (fun i hi hl => by have := hs i hi; omega)
/-- A row of one's own that holds ts. -/
def TokRow (w0 w : World) (v : Value) (ts : List Lx.Tok) : Prop := w.ownsRow w0.heap.size 53 3 v ts.length (tcells ts)
/-- A token more, in a row of one's own. -/
theorem wp_tok {ops : Array Oper} {rest : List Oper} {o : Oper} {a : Act} {Q : Exit → Act → World → Prop} {w w0 : World} (hgd : o.guard = none) (s x : Operand)
    (ho : o.op = .call { callee := .builtin .append, args := #[s, x], argTypes := #[49, 49] }) (v : Value) (ts : List Lx.Tok) (hs : a.eval s = v)
    (hown : w.ownsRow w0.heap.size 53 3 v ts.length (tcells ts)) (k f : Nat) (st : ByteArray) (c : Nat) (hx : a.eval x = .slice (some ⟨w.heap.size, 0, none⟩) 1 c) (p : List UInt8) (hp : st = strO p) (hlen : ts.length ≤ 100000) (hk : Keeps [] w0 w)
    (h : ∀ v' w', Hid (TokRow w0 w' v' (ts ++ [Lx.Tok.mk k p f])) → Hid (Keeps [] w0 w') → wpList Tryz.prog ops Q rest (a.put o.dst v') w') :
    wpList Tryz.prog ops Q (o :: rest) a (w.alloc (.cells #[.int .i64 ((k : Nat) : Int), .string st, .int .i64 ((f : Nat) : Int)] 53)) := by
  obtain ⟨iP, hP, hP0, hP1, hP2⟩ := info_parts infoTok
  refine wpList_append_own _ hgd s x 49 ho w0.heap.size 53 iP (.agg #[.int .i64 0, .string .empty, .int .i64 0]) 3 32 Tryz.underlying49 hP hP0 hP1 hP2 rfl (by decide) v ts.length (tcells ts) hs (hown.alloc _) ⟨w.heap.size, 0, none⟩ 1 c [.int .i64 ((k : Nat) : Int), .string st, .int .i64 ((f : Nat) : Int)] hx rfl ?_ ?_ ?_ ?_ ?_ ?_
  · intro j u hj
    rw [Addr.add_lit, Nat.zero_add, row_cell (heap_alloc_new w _)]
    match j, hj with
    | 0, hj => simpa using hj
    | 1, hj => simpa using hj
    | 2, hj => simpa using hj
    | j + 3, hj => simp at hj
  · intro u hu; simp at hu; rcases hu with rfl | rfl | rfl <;> rfl
  · unfold maxLen; omega
  · omega
  · have := hk.size; simp; omega
  · intro v' w' h1 h2 _
    refine h v' w' (Lib.hid ?_) (Lib.hid ((hk.alloc _).fresh (Keeps.of_grown h2) (fun y hy => (hown.lt y (by simpa using hy)).1)))
    unfold TokRow
    rw [tcells_snoc, List.length_append, ← hp]
    exact h1
/-- What a lexer gives: the tokens, a place, an error. -/
def LexP (w : World) (o : Lx.Out) (e : Ending) (w' : World) : Prop :=
  ∃ A c g, e = .returned (.tuple #[.slice A o.toks.length c, .int .i64 ((o.pos : Nat) : Int), .int .i64 ((o.err : Nat) : Int)]) ∧ ToksIn w' g A o.toks ∧ (o.toks ≠ [] → w.heap.size ≤ g) ∧ Keeps [] w w'

set_option maxRecDepth 100000 in
set_option maxHeartbeats 4000000 in
theorem tokens_any (w : World) (l : List UInt8) (hl : l.length ≤ 5000) (he : ErrAt w) :
    Calls Tryz.prog 72 #[.string (strO l)] w (LexP w (Lx.toks l)) := by
  have HE := Lib.hid he
  obtain ⟨s, hs⟩ : ∃ s, s = strO l := ⟨_, rfl⟩
  have hsz : s.size = l.length := by rw [hs, strO_len]
  obtain ⟨n, hn⟩ : ∃ n, n = l.length := ⟨_, rfl⟩
  rw [← hn] at hsz hl
  rw [← hs]
  have HS := Lib.hid hs
  have HN := Lib.hid hn
  clear he hs hn
  by_cases hg : 4096 < n
  · have HT := Lib.hid (show Lx.toks l = ⟨[], 0, 53⟩ by unfold Lx.toks; rw [if_pos (by have := HN.out; omega)])
    go_enter Tryz.func72, Tryz.ntmps72
    go_wp2_with fail
    go_ret3
    rw [HT.out]
    exact ⟨none, 0, 0, rfl, .inl rfl, fun h => absurd rfl h, Keeps.refl _ _⟩
  · have HT := Lib.hid (show Lx.toks l = Lx.scan l 0 [] by unfold Lx.toks; rw [if_neg (by have := HN.out; omega)])
    obtain ⟨o, ho⟩ : ∃ o, o = Lx.toks l := ⟨_, rfl⟩
    rw [← ho] at HT ⊢
    obtain ⟨iP, hP, hP0, hP1, hP2⟩ := info_parts infoTok
    clear ho
    go_enter Tryz.func72, Tryz.ntmps72
    go_wp2_with fail
    go_loopw [5, 6, 17] (fun tv fv iv wr => ∃ (k f : Nat) (ts : List Lx.Tok), k ≤ n ∧ f ≤ k ∧ fv = .int .i64 (f : Int) ∧ iv = .int .i64 (k : Int) ∧ (k < n → ∀ i, 1 ≤ i → i ≤ k - f → Lx.joinAt (l.drop f) i = true) ∧ (k = n → f = n) ∧ wr.ownsRow w.heap.size 53 3 tv ts.length (tcells ts) ∧ Keeps [] w wr ∧ Lx.scan l f ts = o ∧ ts.length ≤ f) (fun _ _ iv _ => n - (RowKit.intOf iv).toNat)
    case atStart => exact ⟨0, 0, [], by omega, by omega, rfl, rfl, fun _ i h1 h2 => by omega, fun h => h, World.ownsRow_nil _ _ _ _, Keeps.refl _ _, HT.out.symm, Nat.le_refl _⟩
    case round =>
      obtain ⟨k, f, ts, hk, hf, rfl, rfl, hr, hend, ho, hkk, hsc, hts⟩ := hrel
      have HO := Lib.hid ho
      have HK := Lib.hid hkk
      have HR := Lib.hid hr
      have HSC := Lib.hid hsc
      clear ho hkk hr hsc
      by_cases hlt : k < n
      · clear hend
        have hrun := HR.out hlt
        have hln := HN.out
        have hfl : f < l.length := by omega
        have hdl : (l.drop f).length = n - f := by rw [List.length_drop]; omega
        have hb0 : (l.drop f)[0]? = some l[f] := by rw [List.getElem?_drop, Nat.add_zero, List.getElem?_eq_getElem hfl]
        have HEX := Lib.hid (fun j => show s.extract f j = strO ((l.drop f).take (j - f)) by rw [HS.out, strO_extract])
        by_cases hjn : k + 1 < n ∧ Lx.joinAt (l.drop f) (k + 1 - f) = true
        · -- the byte belongs to the piece
          obtain ⟨hnx, hj⟩ := hjn
          have hcl : (l.drop f)[k + 1 - f]? = some (l[k + 1]'(by omega)) := by rw [List.getElem?_drop, show f + (k + 1 - f) = k + 1 by omega, List.getElem?_eq_getElem (by omega)]
          have HJ := Lib.hid (fun w' => joins_any w' ((l.drop f).take (k + 1 + 1 - f)) l[f] (l[k + 1]'(by omega)) (by rw [List.getElem?_take_of_lt (by omega)]; exact hb0) (k + 1 - f) (by rw [List.length_take]; omega) (by rw [List.getElem?_take_of_lt (by omega)]; exact hcl) (by omega))
          have HJ2 : Hid (∀ w', Calls Tryz.prog 108 #[.string (s.extract f (k + 1 + 1))] w' fun e w2 => e = .returned (.bool true) ∧ w' = w2) := Lib.hid (fun w' => by
            have h := HJ.out w'
            have h2 := Lx.joinAt_eq hb0 hcl
            rw [show k + 1 - f + 1 = k + 1 + 1 - f by omega, hj] at h2
            rw [← h2] at h
            rw [HEX.out]; exact h)
          have HRN := Lib.hid (show k + 1 < n → ∀ i, 1 ≤ i → i ≤ k + 1 - f → Lx.joinAt (l.drop f) i = true from fun _ i h1 h2 => by
            by_cases h : i = k + 1 - f
            · rw [h]; exact hj
            · exact hrun i h1 (by omega))
          clear HJ hcl hj hrun hln hfl hdl hb0 HEX
          go_wp2_with fail
          refine (HJ2.out wr).mono ?_
          rintro e w' ⟨rfl, rfl⟩
          go_wp2_with fail
          go_roundw
          case rel => exact ⟨k + 1, f, ts, by omega, by omega, rfl, by go_num, HRN.out, fun h => by omega, HO.out, HK.out, HSC.out, hts⟩
          case measure => simp [intOf]; omega
        · -- the piece ends here
          have HPL := Lib.hid (show Lx.pieceLen (l.drop f) = k - f + 1 from Lx.piece_of_run (by omega) hrun (fun h => by
            by_cases hnx : k + 1 < n
            · have : ¬ Lx.joinAt (l.drop f) (k + 1 - f) = true := fun h => hjn ⟨hnx, h⟩
              rw [show k - f + 1 = k + 1 - f by omega]
              simpa using this
            · omega))
          obtain ⟨pc, hpc⟩ : ∃ x, x = (l.drop f).take (k - f + 1) := ⟨_, rfl⟩
          have hpl : pc.length = k + 1 - f := by rw [hpc, List.length_take]; omega
          have HPC := Lib.hid hpc
          have hpx : s.extract f (k + 1) = strO pc := by rw [HEX.out, hpc, show k + 1 - f = k - f + 1 by omega]
          have hp0 : pc ≠ [] := fun h => by rw [h] at hpl; simp at hpl; omega
          have hp5 : pc.length ≤ 5000 := by omega
          obtain ⟨q, hq⟩ : ∃ q, q = s.extract f (k + 1) := ⟨_, rfl⟩
          rw [← hq] at hpx
          have HQ := Lib.hid hq
          have HQP := Lib.hid hpx
          obtain ⟨jd, hjd⟩ : ∃ j, j = Lx.judge pc := ⟨_, rfl⟩
          have HJD := Lib.hid hjd
          have HRD : Hid (∀ w', ErrAt w' → Calls Tryz.prog 109 #[.string (s.extract f (k + 1))] w' fun e w2 => e = .returned (.tuple #[.int .i64 (kindI jd.1), .int .i64 ((jd.2 : Nat) : Int)]) ∧ Keeps [] w' w2) := Lib.hid (fun w' h => by
            have := read_any w' pc hp0 hp5 h
            rw [← hjd] at this
            rw [← hq, hpx]; exact this)
          have HCL : Hid (∀ w', Calls Tryz.prog 110 #[.string (s.extract f (k + 1))] w' fun e w2 => e = .returned (.string q) ∧ Keeps [] w' w2) := Lib.hid (fun w' => by
            rw [← hq, hpx]; exact sclone_any w' pc hp5)
          have hcase : (k + 1 < n ∧ Lx.joinAt (l.drop f) (k + 1 - f) = false) ∨ k + 1 = n := by
            by_cases hnx : k + 1 < n
            · left
              have : ¬ Lx.joinAt (l.drop f) (k + 1 - f) = true := fun h => hjn ⟨hnx, h⟩
              exact ⟨hnx, by simpa using this⟩
            · right; omega
          have HJ2 : Hid (k + 1 < n → Lx.joinAt (l.drop f) (k + 1 - f) = false → ∀ w', Calls Tryz.prog 108 #[.string (s.extract f (k + 1 + 1))] w' fun e w2 => e = .returned (.bool false) ∧ w' = w2) := Lib.hid (fun hnx hj w' => by
            have hcl : (l.drop f)[k + 1 - f]? = some (l[k + 1]'(by omega)) := by rw [List.getElem?_drop, show f + (k + 1 - f) = k + 1 by omega, List.getElem?_eq_getElem (by omega)]
            have h := joins_any w' ((l.drop f).take (k + 1 + 1 - f)) l[f] (l[k + 1]'(by omega)) (by rw [List.getElem?_take_of_lt (by omega)]; exact hb0) (k + 1 - f) (by rw [List.length_take]; omega) (by rw [List.getElem?_take_of_lt (by omega)]; exact hcl) (by omega)
            have h2 := Lx.joinAt_eq hb0 hcl
            rw [show k + 1 - f + 1 = k + 1 + 1 - f by omega, hj] at h2
            rw [← h2] at h
            rw [HEX.out]; exact h)
          obtain ⟨kd, er⟩ := jd
          have HST : Hid (er = 0 → Lx.scan l (k + 1) (Lx.addTok ts kd pc f) = o) := Lib.hid (fun h0 => by
            subst h0
            have := Lx.scan_step (acc := ts) hfl HPL.out HPC.out.symm HJD.out.symm
            rw [show f + (k - f + 1) = k + 1 by omega] at this
            rw [← this]; exact HSC.out)
          have HSE : Hid (er ≠ 0 → o = ⟨[], f, er⟩) := Lib.hid (fun h0 => by
            rw [← HSC.out]; exact Lx.scan_err (acc := ts) hfl HPL.out HPC.out.symm HJD.out.symm h0)
          clear hjn hrun hln hfl hdl hb0 HEX hpc hpl hpx hp0 hp5 hq hjd HPL HPC
          have HCASE := Lib.hid hcase
          have HRN := Lib.hid (show k + 1 < n → ∀ i, 1 ≤ i → i ≤ k + 1 - (k + 1) → Lx.joinAt (l.drop (k + 1)) i = true from fun _ i h1 h2 => by omega)
          obtain ⟨ki, hki⟩ : ∃ x, x = kindI kd := ⟨_, rfl⟩
          obtain ⟨ei, hei⟩ : ∃ x : Int, x = ((er : Nat) : Int) := ⟨_, rfl⟩
          have HRD' : Hid (∀ w', ErrAt w' → Calls Tryz.prog 109 #[.string (s.extract f (k + 1))] w' fun e w2 => e = .returned (.tuple #[.int .i64 ki, .int .i64 ei]) ∧ Keeps [] w' w2) := Lib.hid (by rw [hki, hei]; exact HRD.out)
          have HKI := Lib.hid hki
          have HEI := Lib.hid hei
          clear hki hei HRD
          by_cases hcase1 : k + 1 < n
          · replace hcase : k + 1 < n ∧ Lx.joinAt (l.drop f) (k + 1 - f) = false := by rcases hcase with h | h; exact h; omega
            obtain ⟨hnx, hj⟩ := hcase
            have HJ3 := Lib.hid (HJ2.out hnx hj)
            clear HJ2 hj
            by_cases h0 : er = 0
            · cases kd with
              | none =>
                have hei0 : ei = 0 := by rw [HEI.out, h0]; rfl
                have hki0 : ki = -1 := HKI.out
                rw [hei0, hki0] at HRD'
                have HST' : Hid (Lx.scan l (k + 1) ts = o) := Lib.hid (HST.out h0)
                clear HST HSE HEI h0 hei0 HKI hki0
                go_wp2_with fail
                refine (HJ3.out wr).mono ?_
                rintro e w' ⟨rfl, rfl⟩
                go_wp2_with fail
                refine (HRD'.out wr (HE.out.keep HK.out)).mono ?_
                rintro e w1 ⟨rfl, hk1⟩
                have HK1 := Lib.hid (HK.out.trans hk1 (by simp))
                have HO1 := Lib.hid (owned_keep3 HO.out hk1)
                clear hk1
                go_wp2_with fail
                go_roundw
                case rel => exact ⟨k + 1, k + 1, ts, by omega, by omega, by go_num, by go_num, HRN.out, fun h => h, HO1.out, HK1.out, HST'.out, by omega⟩
                case measure => simp [intOf]; omega
              | some kk =>
                have hei0 : ei = 0 := by rw [HEI.out, h0]; rfl
                have hki0 : ki = ((kk : Nat) : Int) := HKI.out
                rw [hei0, hki0] at HRD'
                have HST' : Hid (Lx.scan l (k + 1) (ts ++ [Lx.Tok.mk kk pc f]) = o) := Lib.hid (HST.out h0)
                have hkn : (((kk : Nat) : Int) != -1) = true := by first | (simp; done) | (simp; omega)
                clear HST HSE HEI h0 hei0 HKI hki0
                go_wp2_with fail
                refine (HJ3.out wr).mono ?_
                rintro e w' ⟨rfl, rfl⟩
                go_wp2_with fail
                refine (HRD'.out wr (HE.out.keep HK.out)).mono ?_
                rintro e w1 ⟨rfl, hk1⟩
                have HK1 := Lib.hid (HK.out.trans hk1 (by simp))
                have HO1 := Lib.hid (owned_keep3 HO.out hk1)
                clear hk1
                go_wp2_with fail
                refine (HCL.out w1).mono ?_
                rintro e w2 ⟨rfl, hk2⟩
                have HK2 := Lib.hid (HK1.out.trans hk2 (by simp))
                have HO2 := Lib.hid (owned_keep3 HO1.out hk2)
                clear hk2
                go_wp2_with (at_builtin; refine wpList_append_own _ rfl _ _ 49 rfl w.heap.size 53 iP (.agg #[.int .i64 0, .string .empty, .int .i64 0]) 3 32 Tryz.underlying49 hP hP0 hP1 hP2 rfl (by decide) u5 ts.length (tcells ts) rfl (HO2.out.alloc _) ⟨w2.heap.size, 0, none⟩ 1 1 [.int .i64 ((kk : Nat) : Int), .string q, .int .i64 (f : Int)] rfl rfl ?qa1 ?qa2 ?qa3 ?qa4 ?qa5 ?_)
                case qa1 =>
                  intro j u hj
                  rw [Addr.add_lit, Nat.zero_add, row_cell (heap_alloc_new w2 _)]
                  match j, hj with
                  | 0, hj => simpa using hj
                  | 1, hj => simpa using hj
                  | 2, hj => simpa using hj
                  | j + 3, hj => simp at hj
                case qa2 => intro u hu; simp at hu; rcases hu with rfl | rfl | rfl <;> rfl
                case qa3 => unfold maxLen; omega
                case qa4 => omega
                case qa5 => have := HK2.out.size; simp; omega
                intro v' w3 hown' hgrow _
                have HO3 := Lib.hid (show w3.ownsRow w.heap.size 53 3 v' (ts ++ [Lx.Tok.mk kk pc f]).length (tcells (ts ++ [Lx.Tok.mk kk pc f])) by
                  rw [tcells_snoc, List.length_append]
                  rw [HQP.out] at hown'
                  exact hown')
                have HK3 := Lib.hid (show Keeps [] w w3 from (HK2.out.alloc _).fresh (Keeps.of_grown hgrow) (fun y hy => (HO2.out.lt y (by simpa using hy)).1))
                clear hown' hgrow
                go_wp2_with fail
                go_roundw
                case rel => exact ⟨k + 1, k + 1, ts ++ [Lx.Tok.mk kk pc f], by omega, by omega, by go_num, by go_num, HRN.out, fun h => h, HO3.out, HK3.out, HST'.out, by rw [List.length_append]; simp; omega⟩
                case measure => simp [intOf]; omega
            · have HR2 := Lib.hid (HSE.out h0)
              have hei0 : (ei != 0) = true := by rw [HEI.out]; first | (simp; done) | (simp; omega)
              clear HSE HST h0
              go_wp2_with fail
              refine (HJ3.out wr).mono ?_
              rintro e w' ⟨rfl, rfl⟩
              go_wp2_with fail
              refine (HRD'.out wr (HE.out.keep HK.out)).mono ?_
              rintro e w1 ⟨rfl, hk1⟩
              have HK1 := Lib.hid (HK.out.trans hk1 (by simp))
              have HO1 := Lib.hid (owned_keep3 HO.out hk1)
              clear hk1
              go_wp2_with fail
              go_ret3
              rw [HR2.out, HEI.out]
              exact ⟨none, 0, 0, rfl, .inl rfl, fun h => absurd rfl h, HK1.out⟩
          · replace hcase : k + 1 = n := by rcases hcase with h | h; exact absurd h.1 hcase1; exact h
            have hge : n ≤ k + 1 := by omega
            clear HJ2 hcase hcase1
            by_cases h0 : er = 0
            · cases kd with
              | none =>
                have hei0 : ei = 0 := by rw [HEI.out, h0]; rfl
                have hki0 : ki = -1 := HKI.out
                rw [hei0, hki0] at HRD'
                have HST' : Hid (Lx.scan l (k + 1) ts = o) := Lib.hid (HST.out h0)
                clear HST HSE HEI h0 hei0 HKI hki0
                go_wp2_with fail
                refine (HRD'.out wr (HE.out.keep HK.out)).mono ?_
                rintro e w1 ⟨rfl, hk1⟩
                have HK1 := Lib.hid (HK.out.trans hk1 (by simp))
                have HO1 := Lib.hid (owned_keep3 HO.out hk1)
                clear hk1
                go_wp2_with fail
                go_roundw
                case rel => exact ⟨k + 1, k + 1, ts, by omega, by omega, by go_num, by go_num, HRN.out, fun h => h, HO1.out, HK1.out, HST'.out, by omega⟩
                case measure => simp [intOf]; omega
              | some kk =>
                have hei0 : ei = 0 := by rw [HEI.out, h0]; rfl
                have hki0 : ki = ((kk : Nat) : Int) := HKI.out
                rw [hei0, hki0] at HRD'
                have HST' : Hid (Lx.scan l (k + 1) (ts ++ [Lx.Tok.mk kk pc f]) = o) := Lib.hid (HST.out h0)
                have hkn : (((kk : Nat) : Int) != -1) = true := by first | (simp; done) | (simp; omega)
                clear HST HSE HEI h0 hei0 HKI hki0
                go_wp2_with fail
                refine (HRD'.out wr (HE.out.keep HK.out)).mono ?_
                rintro e w1 ⟨rfl, hk1⟩
                have HK1 := Lib.hid (HK.out.trans hk1 (by simp))
                have HO1 := Lib.hid (owned_keep3 HO.out hk1)
                clear hk1
                go_wp2_with fail
                refine (HCL.out w1).mono ?_
                rintro e w2 ⟨rfl, hk2⟩
                have HK2 := Lib.hid (HK1.out.trans hk2 (by simp))
                have HO2 := Lib.hid (owned_keep3 HO1.out hk2)
                clear hk2
                go_wp2_with (at_builtin; refine wpList_append_own _ rfl _ _ 49 rfl w.heap.size 53 iP (.agg #[.int .i64 0, .string .empty, .int .i64 0]) 3 32 Tryz.underlying49 hP hP0 hP1 hP2 rfl (by decide) u5 ts.length (tcells ts) rfl (HO2.out.alloc _) ⟨w2.heap.size, 0, none⟩ 1 1 [.int .i64 ((kk : Nat) : Int), .string q, .int .i64 (f : Int)] rfl rfl ?qa1 ?qa2 ?qa3 ?qa4 ?qa5 ?_)
                case qa1 =>
                  intro j u hj
                  rw [Addr.add_lit, Nat.zero_add, row_cell (heap_alloc_new w2 _)]
                  match j, hj with
                  | 0, hj => simpa using hj
                  | 1, hj => simpa using hj
                  | 2, hj => simpa using hj
                  | j + 3, hj => simp at hj
                case qa2 => intro u hu; simp at hu; rcases hu with rfl | rfl | rfl <;> rfl
                case qa3 => unfold maxLen; omega
                case qa4 => omega
                case qa5 => have := HK2.out.size; simp; omega
                intro v' w3 hown' hgrow _
                have HO3 := Lib.hid (show w3.ownsRow w.heap.size 53 3 v' (ts ++ [Lx.Tok.mk kk pc f]).length (tcells (ts ++ [Lx.Tok.mk kk pc f])) by
                  rw [tcells_snoc, List.length_append]
                  rw [HQP.out] at hown'
                  exact hown')
                have HK3 := Lib.hid (show Keeps [] w w3 from (HK2.out.alloc _).fresh (Keeps.of_grown hgrow) (fun y hy => (HO2.out.lt y (by simpa using hy)).1))
                clear hown' hgrow
                go_wp2_with fail
                go_roundw
                case rel => exact ⟨k + 1, k + 1, ts ++ [Lx.Tok.mk kk pc f], by omega, by omega, by go_num, by go_num, HRN.out, fun h => h, HO3.out, HK3.out, HST'.out, by rw [List.length_append]; simp; omega⟩
                case measure => simp [intOf]; omega
            · have HR2 := Lib.hid (HSE.out h0)
              have hei0 : (ei != 0) = true := by rw [HEI.out]; first | (simp; done) | (simp; omega)
              clear HSE HST h0
              go_wp2_with fail
              refine (HRD'.out wr (HE.out.keep HK.out)).mono ?_
              rintro e w1 ⟨rfl, hk1⟩
              have HK1 := Lib.hid (HK.out.trans hk1 (by simp))
              have HO1 := Lib.hid (owned_keep3 HO.out hk1)
              clear hk1
              go_wp2_with fail
              go_ret3
              rw [HR2.out, HEI.out]
              exact ⟨none, 0, 0, rfl, .inl rfl, fun h => absurd rfl h, HK1.out⟩
      · have hkn : k = n := by omega
        subst hkn
        have hfn := hend rfl
        subst hfn
        clear hend
        obtain ⟨A, c, g, rfl, hti, htb⟩ := toks_of_own HO.out
        have HTI := Lib.hid hti
        have HTB := Lib.hid htb
        have HR2 := Lib.hid (HSC.out.symm.trans (Lx.scan_end (by have := HN.out; omega)))
        clear hti htb
        go_wp2_with fail
        go_ret3
        rw [HR2.out]
        exact ⟨A, c, g, rfl, HTI.out, HTB.out, HK.out⟩
end Go.Proofs.YtbikifibfaaggaaGreatDoor
