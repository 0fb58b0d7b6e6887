import Derived.Test.YtbikifibfaaggaaGreatDoorVMD
import Derived.Test.YtbikifibfaaggaaGreatDoorVMC
import Derived.Defers
import Derived.Recover
namespace Go.Proofs.YtbikifibfaaggaaGreatDoor
set_option maxHeartbeats 4000000
open Go.RowKit Go.Shelf
open Lx (Tok Tx)
def PAt (w : World) (b n : Nat) (ts : List Tok) (o k : Nat) : Prop :=
 Px.Good ts ∧ ∃ A cap g, w.heap[b]? = some (.cells #[.slice A ts.length cap, .int .i64 (n : Int), .int .i64 (o : Int), .int .i64 (k : Int)] 133 (0, 0)) ∧ ToksIn w g A ts ∧ g < b ∧ ts.length ≤ cap ∧ cap ≤ maxLen
abbrev pp (b : Nat) : Value := .pointer (some ⟨b, 0, none⟩)
theorem PAt.keep {w w' : World} {b n o k : Nat} {ts : List Tok} (h : PAt w b n ts o k) (hk : Keeps [] w w') : PAt w' b n ts o k := by
 obtain ⟨hwf, A, cap, g, h1, h2, h3, h4, h5⟩ := h
 exact ⟨hwf, A, cap, g, block_keep h1 hk (by simp), h2.keep hk (by simp), h3, h4, h5⟩
def died (e : Int) : List PanicEntry := [{ v := .iface 27 (.int .i64 e), recovered := false }]
theorem pneed_yes (w : World) (e : Int) : Calls Tryz.prog 75 #[.bool true, .int .i64 e] w fun e w' => e = .returned (.tuple #[]) ∧ w = w' := by
 go_enter Tryz.func75, Tryz.ntmps75
 go_wp2
 go_end0
 exact ⟨rfl, rfl⟩
theorem pneed_no (w : World) (z : Int) : Calls Tryz.prog 75 #[.bool false, .int .i64 z] w fun e w' => e = .panicked (died z) ∧ w = w' := by
 go_enter Tryz.func75, Tryz.ntmps75
 go_wp2
 exact ⟨rfl, rfl, rfl⟩
theorem pneed_any (w : World) (ok : Bool) (z : Int) : Calls Tryz.prog 75 #[.bool ok, .int .i64 z] w fun e w' => e = (if ok then .returned (.tuple #[]) else .panicked (died z)) ∧ w = w' := by
 cases ok
 · exact pneed_no w z
 · exact pneed_yes w z
theorem ne_blk {g b j i : Nat} (h : g ≠ b) : (⟨g, j, none⟩ : Addr) ≠ ⟨b, i, none⟩ := by simp [h]
theorem strO_eq (a b : Tx) : ((strO a).toList == (strO b).toList) = (a == b) := by rw [strO_toList, strO_toList]
theorem text_any (w : World) (b n o k : Nat) (ts : List Tok) (h : PAt w b n ts o k) (j : Nat) (hj : j ≤ 10) :
 Calls Tryz.prog 147 #[pp b, .int .i64 (j : Int)] w fun e w' => e = .returned (.string (strO (Px.txt ts j))) ∧ w = w' := by
 obtain ⟨_, A, cap, g, hb, ht, hg, hc, hm⟩ := h
 have c0 := row_cell hb 0
 simp only [List.getElem?_toArray, List.getElem?_cons_zero] at c0
 by_cases hlt : j < ts.length
 ·
  have hx : Px.txt ts j = ts[j].text := by unfold Px.txt; rw [List.getElem?_eq_getElem hlt]
  rw [hx]
  rcases ht with ht | ⟨off, rfl, hcell⟩
  · subst ht; simp at hlt
  have h1 := (hcell j hlt).2.1
  obtain ⟨m, hm'⟩ : ∃ m, m = ts.length := ⟨_, rfl⟩
  obtain ⟨s, hs⟩ : ∃ s, s = strO ts[j].text := ⟨_, rfl⟩
  rw [← hs] at h1 ⊢
  rw [← hm'] at c0 hlt
  clear hb hcell hc hm hx hs hm'
  go_enter Tryz.func147, Tryz.ntmps147
  go_wp2
  go_ret
  exact ⟨rfl, rfl⟩
 ·
  have hx : Px.txt ts j = [] := by unfold Px.txt; rw [List.getElem?_eq_none (by omega)]
  rw [hx]
  obtain ⟨m, hm'⟩ : ∃ m, m = ts.length := ⟨_, rfl⟩
  rw [← hm'] at c0 hlt
  clear hb ht hc hm hx hm'
  go_enter Tryz.func147, Tryz.ntmps147
  go_wp2
  go_ret
  exact ⟨rfl, rfl⟩
theorem sees_any (w : World) (b n o k : Nat) (ts : List Tok) (h : PAt w b n ts o k) (s : Tx) :
 Calls Tryz.prog 113 #[pp b, .string (strO s)] w fun e w' => e = .returned (.bool (Px.sees ts s)) ∧ w = w' := by
 have HT := Hd (text_any w b n o k ts h 0 (by omega))
 have HE := Hd (strO_eq (Px.txt ts 0) s)
 obtain ⟨x, hx⟩ : ∃ x, x = strO (Px.txt ts 0) := ⟨_, rfl⟩
 obtain ⟨y, hy⟩ : ∃ y, y = strO s := ⟨_, rfl⟩
 rw [← hx] at HT
 rw [← hx, ← hy] at HE
 rw [← hy]
 clear hx hy h
 go_enter Tryz.func113, Tryz.ntmps113
 go_wp2_with fail
 refine (same (HT.out)) ?_
 go_wp2_with fail
 go_ret
 exact ⟨ret_bool HE.out, rfl⟩
theorem offset_any (w : World) (b n o k : Nat) (ts : List Tok) (h : PAt w b n ts o k) :
 Calls Tryz.prog 74 #[pp b] w fun e w' => e = .returned (.int .i64 ((Px.place n ts : Nat) : Int)) ∧ w = w' := by
 obtain ⟨_, A, cap, g, hb, ht, hg, hc, hm⟩ := h
 have c0 := row_cell hb 0
 have c1 := row_cell hb 1
 simp only [List.getElem?_toArray, List.getElem?_cons_zero, List.getElem?_cons_succ] at c0 c1
 match ts, ht with
 | [], ht =>
  clear hb ht hc hm
  go_enter Tryz.func74, Tryz.ntmps74
  go_wp2
  go_ret
  exact ⟨rfl, rfl⟩
 | t :: r, ht =>
  rcases ht with ht | ⟨off, rfl, hcell⟩
  · cases ht
  have h1 := (hcell 0 (by simp)).2.2
  simp only [Nat.zero_mul, Nat.add_zero, List.getElem_cons_zero] at h1
  have hp : (Px.place n (t :: r)) = t.at_ := rfl
  rw [hp]
  obtain ⟨z, hz⟩ : ∃ z : Int, z = (t.at_ : Int) := ⟨_, rfl⟩
  obtain ⟨m, hm'⟩ : ∃ m, m = (t :: r).length := ⟨_, rfl⟩
  have hpos : 0 < m := by rw [hm']; simp
  rw [← hz] at h1 ⊢
  rw [← hm'] at c0
  clear hb hcell hc hm hz hm' hp
  go_enter Tryz.func74, Tryz.ntmps74
  go_wp2
  go_ret
  exact ⟨rfl, rfl⟩
theorem take_any (w : World) (b n o k : Nat) (t : Tok) (r : List Tok) (h : PAt w b n (t :: r) o k) :
 Calls Tryz.prog 112 #[pp b] w fun e w' => e = .returned (.string (strO t.text)) ∧ PAt w' b n r o k ∧ Keeps [b] w w' := by
 obtain ⟨hwf, A, cap, g, hb, ht, hg, hc, hm⟩ := h
 have HWF := Hd (show Px.Good r from hwf.tail)
 clear hwf
 rcases ht with ht | ⟨off, rfl, hcell⟩
 · cases ht
 have c0 := row_cell hb 0
 have f0 := row_free hb 0
 simp only [List.getElem?_toArray, List.getElem?_cons_zero] at c0
 have h1 := (hcell 0 (by simp)).2.1
 simp only [Nat.zero_mul, Nat.add_zero, List.getElem_cons_zero] at h1
 have HCELL := Hd hcell
 have HB := Hd hb
 have HL : r.length + 1 ≤ cap := by simpa using hc
 have hlen : (t :: r).length = r.length + 1 := rfl
 rw [hlen] at c0
 obtain ⟨m, hm'⟩ : ∃ m, m = r.length := ⟨_, rfl⟩
 obtain ⟨s, hs⟩ : ∃ s, s = strO t.text := ⟨_, rfl⟩
 rw [← hs] at h1 ⊢
 rw [← hm'] at c0 HL
 have HM := Hd hm'
 unfold maxLen at hm
 clear hb hcell hc hs hm' hlen
 have hset : ∀ (v : Value), (w.setCell ⟨b, 0, none⟩ v).heap[b]? = some (.cells #[v, .int .i64 (n : Int), .int .i64 (o : Int), .int .i64 (k : Int)] 133 (0, 0)) := fun v => by
  rw [row_set HB.out]; rfl
 have HSET := Hd hset
 clear hset
 by_cases hcap : cap = 1
 ·
  obtain rfl : m = 0 := by omega
  subst hcap
  go_enter Tryz.func112, Tryz.ntmps112
  go_wp2
  go_ret
  have hr0 : r = [] := List.eq_nil_of_length_eq_zero (by rw [← HM.out])
  subst hr0
  exact ⟨rfl, ⟨HWF.out, _, _, g, HSET.out _, .inl rfl, hg, Nat.le_refl _, Nat.zero_le _⟩, (Keeps.refl _ _).setCell (by simp) _⟩
 ·
  have hcap1 : 1 < cap := by omega
  go_enter Tryz.func112, Tryz.ntmps112
  go_wp2
  go_ret
  refine ⟨rfl, ⟨HWF.out, some ⟨g, off + 3, none⟩, cap - 1, g, ?_, .inr ⟨off + 3, rfl, fun k hk => ?_⟩, hg, by rw [← HM.out]; omega, by unfold maxLen; omega⟩, (Keeps.refl _ _).setCell (by simp) _⟩
  ·
   rw [← HM.out]
   exact HSET.out _
  ·
   have hx : ∀ j, (w.setCell ⟨b, 0, none⟩ (.slice (some ⟨g, off + 3, none⟩) m (cap - 1))).cell? ⟨g, j, none⟩ = w.cell? ⟨g, j, none⟩ := fun j => World.cell?_setCell_other _ _ _ _ (ne_blk (by omega))
   have := HCELL.out (k + 1) (by simpa using hk)
   simp only [List.getElem_cons_succ] at this
   rw [show off + (k + 1) * 3 = off + 3 + k * 3 by omega] at this
   refine ⟨(hx _).trans this.1, (hx _).trans this.2.1, (hx _).trans this.2.2⟩
theorem PAt.head {w : World} {b n o k : Nat} {t : Tok} {r : List Tok} (h : PAt w b n (t :: r) o k) : ∃ g off cap, w.cell? ⟨b, 0, none⟩ = some (.slice (some ⟨g, off, none⟩) (r.length + 1) cap) ∧ r.length + 1 ≤ cap ∧ w.cell? ⟨g, off, none⟩ = some (.int .i64 ((t.kind : Nat) : Int)) ∧ w.cell? ⟨g, off + 1, none⟩ = some (.string (strO t.text)) ∧ w.cell? ⟨g, off + 2, none⟩ = some (.int .i64 ((t.at_ : Nat) : Int)) := by
 obtain ⟨_, A, cap, g, hb, ht, hg, hc, hm⟩ := h
 rcases ht with ht | ⟨off, rfl, hcell⟩
 · cases ht
 have c0 := row_cell hb 0
 simp only [List.getElem?_toArray, List.getElem?_cons_zero] at c0
 have h1 := hcell 0 (by simp)
 simp only [Nat.zero_mul, Nat.add_zero, List.getElem_cons_zero] at h1
 exact ⟨g, off, cap, c0, by simpa using hc, h1.1, h1.2.1, h1.2.2⟩
theorem PAt.empty {w : World} {b n o k : Nat} (h : PAt w b n [] o k) : ∃ A cap, w.cell? ⟨b, 0, none⟩ = some (.slice A 0 cap) := by
 obtain ⟨_, A, cap, g, hb, ht, hg, hc, hm⟩ := h
 have c0 := row_cell hb 0
 simp only [List.getElem?_toArray, List.getElem?_cons_zero] at c0
 exact ⟨A, cap, c0⟩
theorem keyword_any (w : World) (s : Tx) :
 Calls Tryz.prog 146 #[.string (strO s)] w fun e w' => e = .returned (.bool (Px.words.contains s)) ∧ w = w' := by
 have hw : Px.words.contains s = (s == [102, 110] || s == [118, 97, 114] || s == [112, 116, 114] || s == [105, 102] || s == [101, 108, 115, 101] || s == [119, 104, 105, 108, 101] || s == [114, 101, 116, 117, 114, 110] || s == [97, 115, 115, 101, 114, 116] || s == [110, 117, 108, 108] || s == [99, 101, 108, 108] || s == [97, 114, 114, 97, 121]) := by
  rw [Bool.eq_iff_iff]; simp [Px.words, or_assoc]
 rw [hw]
 have hl := strO_toList s
 obtain ⟨x, hs⟩ : ∃ x, x = strO s := ⟨_, rfl⟩
 rw [← hs] at hl ⊢
 have HL := Hd hl
 clear hl hs hw
 go_enter Tryz.func146, Tryz.ntmps146
 go_wp2
 all_goals
  go_ret
  refine ⟨ret_bool ?_, rfl⟩
  rw [HL.out] at *
  first
   | contradiction
   | (simp [*]; done)
   | (simp_all; done)
theorem seesName_any (w : World) (b n o k : Nat) (ts : List Tok) (h : PAt w b n ts o k) :
 Calls Tryz.prog 111 #[pp b] w fun e w' => e = .returned (.bool (Px.isName ts)) ∧ w = w' := by
 match ts, h with
 | [], h =>
  obtain ⟨A, cap, c0⟩ := h.empty
  clear h
  go_enter Tryz.func111, Tryz.ntmps111
  go_wp2_with fail
  go_ret
  exact ⟨rfl, rfl⟩
 | t :: r, h =>
  obtain ⟨g, off, cap, c0, hc, c1, c2, c3⟩ := h.head
  have HN := Hd (show Px.isName (t :: r) = (t.kind == 0 && !Px.words.contains t.text) from rfl)
  have HK := Hd (keyword_any w t.text)
  obtain ⟨x, hx⟩ : ∃ x, x = strO t.text := ⟨_, rfl⟩
  obtain ⟨m, hm⟩ : ∃ m, m = r.length := ⟨_, rfl⟩
  obtain ⟨v, hv⟩ : ∃ v, v = Px.words.contains t.text := ⟨_, rfl⟩
  rw [← hv] at HN HK
  rw [← hx] at c2 HK
  rw [← hm] at c0 hc
  by_cases hk : t.kind = 0
  ·
   rw [hk] at c1 HN
   clear h hx hm hv hk
   go_enter Tryz.func111, Tryz.ntmps111
   go_wp2_with fail
   refine (same (HK.out)) ?_
   go_wp2_with fail
   go_ret
   exact ⟨by rw [HN.out]; rfl, rfl⟩
  ·
   obtain ⟨z, hz⟩ : ∃ z : Int, z = (t.kind : Int) := ⟨_, rfl⟩
   have hz0 : (z == 0) = false := by rw [hz]; simp; omega
   have hN : Px.isName (t :: r) = false := by rw [HN.out]; simp [hk]
   rw [← hz] at c1
   rw [hN]
   clear h hx hm hv hk HN hz hN
   go_enter Tryz.func111, Tryz.ntmps111
   go_wp2_with fail
   go_ret
   exact ⟨rfl, rfl⟩
theorem seesNumber_any (w : World) (b n o k : Nat) (ts : List Tok) (h : PAt w b n ts o k) :
 Calls Tryz.prog 154 #[pp b] w fun e w' => e = .returned (.bool (Px.isNum ts)) ∧ w = w' := by
 match ts, h with
 | [], h =>
  obtain ⟨A, cap, c0⟩ := h.empty
  clear h
  go_enter Tryz.func154, Tryz.ntmps154
  go_wp2_with fail
  go_ret
  exact ⟨rfl, rfl⟩
 | t :: r, h =>
  obtain ⟨g, off, cap, c0, hc, c1, c2, c3⟩ := h.head
  have HN := Hd (show Px.isNum (t :: r) = (((t.kind : Nat) : Int) == 1) by unfold Px.isNum; rw [Bool.eq_iff_iff]; simp; omega)
  obtain ⟨m, hm⟩ : ∃ m, m = r.length := ⟨_, rfl⟩
  rw [← hm] at c0 hc
  obtain ⟨z, hz⟩ : ∃ z : Int, z = (t.kind : Int) := ⟨_, rfl⟩
  rw [← hz] at c1 HN
  clear h hm hz c2 c3
  go_enter Tryz.func154, Tryz.ntmps154
  go_wp2_with fail
  go_ret
  exact ⟨by rw [HN.out]; rfl, rfl⟩
theorem txt_cons (t : Tok) (r : List Tok) : Px.txt (t :: r) 0 = t.text := rfl
theorem pnumber_yes (w : World) (b n o k : Nat) (t : Tok) (r : List Tok) (h : PAt w b n (t :: r) o k) (hn : t.kind = 1) :
 Calls Tryz.prog 120 #[pp b] w fun e w' => e = .returned (.int .i64 ((Lx.val t.text : Nat) : Int)) ∧ Keeps [] w w' := by
 have HS := Hd (fun w' (h : PAt w' b n (t :: r) o k) => seesNumber_any w' b n o k (t :: r) h)
 have hw : Px.Wf t := h.1.wf t (by simp)
 have his : Px.isNum (t :: r) = true := by simp [Px.isNum, hn]
 rw [his] at HS
 have HN := Hd (fun w' => pneed_yes w' 51)
 have HT := Hd (text_any w b n o k (t :: r) h 0 (by omega))
 rw [txt_cons] at HT
 have HP := Hd (fun w' => parse_yes w' t.text (by have := hw.len; omega) hw.text (hw.num hn).1 (hw.num hn).2)
 have H := Hd h
 obtain ⟨x, hx⟩ : ∃ x, x = strO t.text := ⟨_, rfl⟩
 rw [← hx] at HT HP
 obtain ⟨z, hz⟩ : ∃ z : Int, z = (Lx.val t.text : Int) := ⟨_, rfl⟩
 rw [← hz] at HP ⊢
 clear h hx hz hn hw his
 go_enter Tryz.func120, Tryz.ntmps120
 go_wp2_with fail
 refine (same (HS.out _ H.out)) ?_
 go_wp2_with fail
 refine (same (HN.out _)) ?_
 go_wp2_with fail
 refine (same (HT.out)) ?_
 go_wp2_with fail
 refine (HP.out _).mono ?_
 rintro e w' ⟨rfl, hk⟩
 have HK := Hd hk
 clear hk
 go_wp2_with fail
 go_ret
 exact ⟨rfl, HK.out⟩
theorem pnumber_no (w : World) (b n o k : Nat) (ts : List Tok) (h : PAt w b n ts o k) (hn : Px.isNum ts = false) :
 Calls Tryz.prog 120 #[pp b] w fun e w' => e = .panicked (died 51) ∧ w = w' := by
 have HS := Hd (seesNumber_any w b n o k ts h)
 rw [hn] at HS
 have HN := Hd (fun w' => pneed_no w' 51)
 clear h hn
 go_enter Tryz.func120, Tryz.ntmps120
 go_wp2_with fail
 refine (same (HS.out)) ?_
 go_wp2_with fail
 refine (same (HN.out _)) ?_
 go_wp2
 exact ⟨rfl, rfl, rfl⟩
theorem sees_cons {ts : List Tok} {s : Tx} (hs : s ≠ []) (h : Px.sees ts s = true) : ∃ t r, ts = t :: r ∧ t.text = s := by
 match ts, h with
 | [], h => unfold Px.sees Px.txt at h; simp at h; exact absurd h hs
 | t :: r, h => exact ⟨t, r, rfl, by unfold Px.sees Px.txt at h; simpa using h⟩
theorem passes_yes (w : World) (b n o k : Nat) (ts : List Tok) (h : PAt w b n ts o k) (s : Tx) (hs : s ≠ []) (hy : Px.sees ts s = true) :
 Calls Tryz.prog 86 #[pp b, .string (strO s)] w fun e w' => e = .returned (.bool true) ∧ PAt w' b n ts.tail o k ∧ Keeps [b] w w' := by
 have HS := Hd (sees_any w b n o k ts h s)
 obtain ⟨t, r, rfl, ht⟩ := sees_cons hs hy
 rw [hy] at HS
 have HT := Hd (take_any w b n o k t r h)
 obtain ⟨x, hx⟩ : ∃ x, x = strO t.text := ⟨_, rfl⟩
 obtain ⟨y, hyy⟩ : ∃ y, y = strO s := ⟨_, rfl⟩
 rw [← hx] at HT
 rw [← hyy] at HS ⊢
 clear h hy ht hx hyy
 go_enter Tryz.func86, Tryz.ntmps86
 go_wp2_with fail
 refine (same (HS.out)) ?_
 go_wp2_with fail
 refine (HT.out).mono ?_
 rintro e w' ⟨rfl, h1, h2⟩
 have H1 := Hd h1
 have H2 := Hd h2
 clear h1 h2
 go_wp2_with fail
 go_ret
 exact ⟨rfl, H1.out, H2.out⟩
theorem passes_no (w : World) (b n o k : Nat) (ts : List Tok) (h : PAt w b n ts o k) (s : Tx) (hn : Px.sees ts s = false) :
 Calls Tryz.prog 86 #[pp b, .string (strO s)] w fun e w' => e = .returned (.bool false) ∧ w = w' := by
 have HS := Hd (sees_any w b n o k ts h s)
 rw [hn] at HS
 obtain ⟨y, hyy⟩ : ∃ y, y = strO s := ⟨_, rfl⟩
 rw [← hyy] at HS ⊢
 clear h hn hyy
 go_enter Tryz.func86, Tryz.ntmps86
 go_wp2_with fail
 refine (same (HS.out)) ?_
 go_wp2_with fail
 go_ret
 exact ⟨rfl, rfl⟩
theorem pass_yes (w : World) (b n o k : Nat) (ts : List Tok) (h : PAt w b n ts o k) (s : Tx) (hs : s ≠ []) (hy : Px.sees ts s = true) :
 Calls Tryz.prog 76 #[pp b, .string (strO s)] w fun e w' => e = .returned (.tuple #[]) ∧ PAt w' b n ts.tail o k ∧ Keeps [b] w w' := by
 have HS := Hd (passes_yes w b n o k ts h s hs hy)
 have HN := Hd (fun w' => pneed_yes w' 51)
 obtain ⟨y, hyy⟩ : ∃ y, y = strO s := ⟨_, rfl⟩
 rw [← hyy] at HS ⊢
 clear h hy hyy
 go_enter Tryz.func76, Tryz.ntmps76
 go_wp2_with fail
 refine (HS.out).mono ?_
 rintro e w' ⟨rfl, h1, h2⟩
 have H1 := Hd h1
 have H2 := Hd h2
 clear h1 h2
 go_wp2_with fail
 refine (same (HN.out _)) ?_
 go_wp2_with fail
 go_end0
 exact ⟨rfl, H1.out, H2.out⟩
theorem pass_no (w : World) (b n o k : Nat) (ts : List Tok) (h : PAt w b n ts o k) (s : Tx) (hn : Px.sees ts s = false) :
 Calls Tryz.prog 76 #[pp b, .string (strO s)] w fun e w' => e = .panicked (died 51) ∧ w = w' := by
 have HS := Hd (passes_no w b n o k ts h s hn)
 have HN := Hd (fun w' => pneed_no w' 51)
 obtain ⟨y, hyy⟩ : ∃ y, y = strO s := ⟨_, rfl⟩
 rw [← hyy] at HS ⊢
 clear h hn hyy
 go_enter Tryz.func76, Tryz.ntmps76
 go_wp2_with fail
 refine (same (HS.out)) ?_
 go_wp2_with fail
 refine (same (HN.out _)) ?_
 go_wp2
 exact ⟨rfl, rfl, rfl⟩
theorem isName_cons {ts : List Tok} (h : Px.isName ts = true) : ∃ t r, ts = t :: r := by
 match ts, h with
 | t :: r, _ => exact ⟨t, r, rfl⟩
theorem name_yes (w : World) (b n o k : Nat) (ts : List Tok) (h : PAt w b n ts o k) (hy : Px.isName ts = true) :
 Calls Tryz.prog 77 #[pp b] w fun e w' => e = .returned (.string (strO (Px.txt ts 0))) ∧ PAt w' b n ts.tail o k ∧ Keeps [b] w w' := by
 have HS := Hd (seesName_any w b n o k ts h)
 obtain ⟨t, r, rfl⟩ := isName_cons hy
 rw [hy] at HS
 have HT := Hd (take_any w b n o k t r h)
 rw [txt_cons]
 obtain ⟨x, hx⟩ : ∃ x, x = strO t.text := ⟨_, rfl⟩
 rw [← hx] at HT ⊢
 have HN := Hd (fun w' => pneed_yes w' 51)
 clear h hy hx
 go_enter Tryz.func77, Tryz.ntmps77
 go_wp2_with fail
 refine (same (HS.out)) ?_
 go_wp2_with fail
 refine (same (HN.out _)) ?_
 go_wp2_with fail
 refine (HT.out).mono ?_
 rintro e w' ⟨rfl, h1, h2⟩
 have H1 := Hd h1
 have H2 := Hd h2
 clear h1 h2
 go_wp2_with fail
 go_ret
 exact ⟨rfl, H1.out, H2.out⟩
theorem name_no (w : World) (b n o k : Nat) (ts : List Tok) (h : PAt w b n ts o k) (hn : Px.isName ts = false) :
 Calls Tryz.prog 77 #[pp b] w fun e w' => e = .panicked (died 51) ∧ w = w' := by
 have HS := Hd (seesName_any w b n o k ts h)
 rw [hn] at HS
 have HN := Hd (fun w' => pneed_no w' 51)
 clear h hn
 go_enter Tryz.func77, Tryz.ntmps77
 go_wp2_with fail
 refine (same (HS.out)) ?_
 go_wp2_with fail
 refine (same (HN.out _)) ?_
 go_wp2
 exact ⟨rfl, rfl, rfl⟩
theorem declared_yes (w : World) (b n o k : Nat) (ts : List Tok) (h : PAt w b n ts o k) (hy : Px.isName ts = true) (c m : Nat) (hc : c < m) (hm : m ≤ 1000) :
 Calls Tryz.prog 87 #[pp b, .int .i64 (c : Int), .int .i64 (m : Int)] w fun e w' => e = .returned (.string (strO (Px.txt ts 0))) ∧ PAt w' b n ts.tail o k ∧ Keeps [b] w w' := by
 have HS := Hd (seesName_any w b n o k ts h)
 obtain ⟨t, r, rfl⟩ := isName_cons hy
 rw [hy] at HS
 have HT := Hd (take_any w b n o k t r h)
 rw [txt_cons]
 obtain ⟨x, hx⟩ : ∃ x, x = strO t.text := ⟨_, rfl⟩
 rw [← hx] at HT ⊢
 have HN := Hd (fun w' => pneed_yes w' 51)
 have HN2 := Hd (fun w' => pneed_yes w' 53)
 have hlt : decide ((c : Int) < (m : Int)) = true := by simp; omega
 clear h hy hx
 go_enter Tryz.func87, Tryz.ntmps87
 go_wp2_with fail
 refine (same (HS.out)) ?_
 go_wp2_with fail
 refine (same (HN.out _)) ?_
 go_wp2_with fail
 try simp only [hlt]
 refine (same (HN2.out _)) ?_
 go_wp2_with fail
 refine (HT.out).mono ?_
 rintro e w' ⟨rfl, h1, h2⟩
 have H1 := Hd h1
 have H2 := Hd h2
 clear h1 h2
 go_wp2_with fail
 go_ret
 exact ⟨rfl, H1.out, H2.out⟩
theorem declared_no (w : World) (b n o k : Nat) (ts : List Tok) (h : PAt w b n ts o k) (hn : Px.isName ts = false) (c m : Nat) :
 Calls Tryz.prog 87 #[pp b, .int .i64 (c : Int), .int .i64 (m : Int)] w fun e w' => e = .panicked (died 51) ∧ w = w' := by
 have HS := Hd (seesName_any w b n o k ts h)
 rw [hn] at HS
 have HN := Hd (fun w' => pneed_no w' 51)
 clear h hn
 go_enter Tryz.func87, Tryz.ntmps87
 go_wp2_with fail
 refine (same (HS.out)) ?_
 go_wp2_with fail
 refine (same (HN.out _)) ?_
 go_wp2
 exact ⟨rfl, rfl, rfl⟩
theorem declared_many (w : World) (b n o k : Nat) (ts : List Tok) (h : PAt w b n ts o k) (hy : Px.isName ts = true) (c m : Nat) (hc : m ≤ c) (hm : c ≤ 100000) :
 Calls Tryz.prog 87 #[pp b, .int .i64 (c : Int), .int .i64 (m : Int)] w fun e w' => e = .panicked (died 53) ∧ w = w' := by
 have HS := Hd (seesName_any w b n o k ts h)
 rw [hy] at HS
 have HN := Hd (fun w' => pneed_yes w' 51)
 have HN2 := Hd (fun w' => pneed_no w' 53)
 have HLT := Hd (show decide (c < m) = false by simp; omega)
 clear hc
 clear h hy
 go_enter Tryz.func87, Tryz.ntmps87
 go_wp2_with fail
 refine (same (HS.out)) ?_
 go_wp2_with fail
 refine (same (HN.out _)) ?_
 go_wp2_with fail
 rw [HLT.out]
 refine (same (HN2.out _)) ?_
 go_wp2
 exact ⟨rfl, rfl, rfl⟩
end Go.Proofs.YtbikifibfaaggaaGreatDoor
