import Derived.Test.YtbikifibfaaggaaGreatDoorVMG
import Derived.StillTailTactics
namespace Go.Proofs.YtbikifibfaaggaaGreatDoor
section
set_option maxHeartbeats 2000000
open Go.RowKit Go.Shelf
open Lx (Tok Tx)
open Px (Ex Cn)
inductive St where
 | live (ts : List Tok) (o k : Nat)
 | dead (z p o : Nat)
namespace St
def sees : St → Tx → Bool | .live ts _ _, s => Px.sees ts s | .dead .., _ => false
def named : St → Bool | .live ts _ _ => Px.isName ts | .dead .. => false
def fail (n z : Nat) : St → St | .live ts o _ => .dead z (Px.place n ts) o | .dead z p o => .dead z p o
def adv : St → St | .live ts o k => .live ts.tail o k | .dead z p o => .dead z p o
def take (s : Tx) (σ : St) : St := if σ.sees s then σ.adv else σ
def want (n : Nat) (s : Tx) (σ : St) : St := if σ.sees s then σ.adv else σ.fail n 51
def name (n : Nat) (σ : St) : St := if σ.named then σ.adv else σ.fail n 51
def err : St → Nat | .live .. => 0 | .dead z _ _ => z
def ok : St → Bool | .live .. => true | .dead .. => false
end St
def SA (w : World) (b n : Nat) : St → Prop
 | .live ts o k => ∃ A cap g all i, w.heap[b]? = some (.cells #[.slice A all.length cap, .int .i64 ((i : Nat) : Int), .int .i64 (n : Int), .int .i64 0, .int .i64 0, .int .i64 (o : Int), .int .i64 (k : Int)] 81 (0, 0)) ∧ ToksIn w g A all ∧ all.drop i = ts ∧ i ≤ all.length ∧ g < b ∧ True ∧ True ∧ Px.Good all
 | .dead z p o => 0 < z ∧ z ≤ 100 ∧ ∃ A L cap i k, w.heap[b]? = some (.cells #[.slice A L cap, .int .i64 i, .int .i64 (n : Int), .int .i64 (z : Int), .int .i64 (p : Int), .int .i64 (o : Int), .int .i64 k] 81 (0, 0))
theorem SA.keep {w w' : World} {b n : Nat} {σ : St} (h : SA w b n σ) (hk : Keeps [] w w') : SA w' b n σ := by
 cases σ with
 | live ts o k =>
  obtain ⟨A, cap, g, all, i, h1, h2, h3, h4, h5, h6, h7, h8⟩ := h
  exact ⟨A, cap, g, all, i, block_keep h1 hk (by simp), h2.keep hk (by simp), h3, h4, h5, h6, h7, h8⟩
 | dead z p o =>
  obtain ⟨h1, h2, A, L, cap, i, k, h3⟩ := h
  exact ⟨h1, h2, A, L, cap, i, k, block_keep h3 hk (by simp)⟩
theorem SA.lt {w : World} {b n : Nat} {σ : St} (h : SA w b n σ) : b < w.heap.size := by
 cases σ with
 | live ts o k => obtain ⟨A, cap, g, all, i, h1, _⟩ := h; exact block_lt h1
 | dead z p o => obtain ⟨_, _, A, L, cap, i, k, h3⟩ := h; exact block_lt h3
theorem SA.flag {w : World} {b n : Nat} {σ : St} (h : SA w b n σ) : w.cell? ⟨b, 3, none⟩ = some (.int .i64 (σ.err : Int)) := by
 cases σ with
 | live ts o k =>
  obtain ⟨A, cap, g, all, i, h1, _⟩ := h
  have := row_cell h1 3
  simpa [St.err] using this
 | dead z p o =>
  obtain ⟨_, _, A, L, cap, i, k, h3⟩ := h
  have := row_cell h3 3
  simpa [St.err] using this
theorem SA.good {w : World} {b n : Nat} {ts : List Tok} {o k : Nat} (h : SA w b n (.live ts o k)) : Px.Good ts := by
 obtain ⟨A, cap, g, all, i, h1, h2, rfl, h4, h5, h6, h7, h8⟩ := h
 exact ⟨fun t ht => h8.wf t (List.mem_of_mem_drop ht), by have := h8.len; simp; omega⟩
theorem SA.head {w : World} {b n : Nat} {t : Tok} {r : List Tok} {o k : Nat} (h : SA w b n (.live (t :: r) o k)) : ∃ g off L cap i, w.cell? ⟨b, 0, none⟩ = some (.slice (some ⟨g, off, none⟩) L cap) ∧ w.cell? ⟨b, 1, none⟩ = some (.int .i64 ((i : Nat) : Int)) ∧ i < L ∧ L ≤ 5000 ∧ True ∧
 w.cell? ⟨g, off + i * 3, none⟩ = some (.int .i64 ((t.kind : Nat) : Int)) ∧ w.cell? ⟨g, off + i * 3 + 1, none⟩ = some (.string (strO t.text)) ∧ w.cell? ⟨g, off + i * 3 + 2, none⟩ = some (.int .i64 ((t.at_ : Nat) : Int)) ∧ L = i + 1 + r.length ∧ g < b := by
 obtain ⟨A, cap, g, all, i, h1, h2, h3, h4, h5, h6, h7, h8⟩ := h
 have hl := congrArg List.length h3
 simp at hl
 have hget : all[i]? = some t := by
  have := congrArg (fun l => l[0]?) h3
  simpa using this
 obtain ⟨hlt, hg⟩ := List.getElem?_eq_some_iff.1 hget
 rcases h2 with h2 | ⟨off, rfl, hc⟩
 · subst h2; simp at hlt
 ·
  have c0 := row_cell h1 0
  have c1 := row_cell h1 1
  simp only [List.getElem?_toArray, List.getElem?_cons_zero, List.getElem?_cons_succ] at c0 c1
  have := hc i hlt
  rw [hg] at this
  exact ⟨g, off, all.length, cap, i, c0, c1, hlt, h8.len, h6, this.1, this.2.1, this.2.2, by omega, h5⟩
theorem SA.empty {w : World} {b n : Nat} {o k : Nat} (h : SA w b n (.live [] o k)) : ∃ A L cap, w.cell? ⟨b, 0, none⟩ = some (.slice A L cap) ∧ w.cell? ⟨b, 1, none⟩ = some (.int .i64 ((L : Nat) : Int)) := by
 obtain ⟨A, cap, g, all, i, h1, h2, h3, h4, h5, h6, h7, h8⟩ := h
 have hl := congrArg List.length h3
 simp at hl
 have hi : i = all.length := by omega
 subst hi
 have c0 := row_cell h1 0
 have c1 := row_cell h1 1
 simp only [List.getElem?_toArray, List.getElem?_cons_zero, List.getElem?_cons_succ] at c0 c1
 exact ⟨A, _, cap, c0, c1⟩
def Sign (s : Tx) : Prop := s ≠ [] ∧ ∀ b ∈ s.head?, Lx.digit b = false
theorem Sign.num {s : Tx} (hs : Sign s) {t : Tok} (ht : Px.Wf t) (hk : t.kind = 1) : t.text ≠ s := by
 rintro rfl
 obtain ⟨h1, h2⟩ := hs
 match hx : t.text, h1, h2 with
 | c :: r, _, h2 =>
  have := (ht.num hk).1 c (by rw [hx]; simp)
  have h3 := h2 c rfl
  rw [this] at h3; cases h3
theorem Keeps.set1 {a w : World} {b : Nat} (h : Keeps [b] a w) (j : Nat) (v : Value) : Keeps [b] a (w.setCell ⟨b, j, none⟩ v) := h.setCell (by simp) _
theorem qis_any (w : World) (b n : Nat) (σ : St) (h : SA w b n σ) (s : Tx) (hs : Sign s := by exact ⟨by simp, by simp; decide⟩) :
 Calls Tryz.prog 39 #[pp b, .string (strO s)] w fun e w' => e = .returned (.bool (σ.sees s)) ∧ Keeps [] w w' := by
 have c3 := h.flag
 cases σ with
 | dead z p o =>
  have hz : ((z : Int) == 0) = false := by have := h.1; simp; omega
  have hz' : decide ((z : Int) = 0) = false := by have := h.1; simp; omega
  simp only [St.err] at c3
  clear h
  go_enter Tryz.func39, Tryz.ntmps39
  go_wp2
  go_quiet (fail)
  go_wp2
  go_ret
  exact ⟨rfl, (Keeps.refl _ _).drewN _⟩
 | live ts o k =>
  simp only [St.err] at c3
  match ts, h with
  | [], h =>
   obtain ⟨A, L, cap, c0, c1⟩ := h.empty
   have hs1 := hs.1
   clear h
   go_enter Tryz.func39, Tryz.ntmps39
   go_wp2
   go_quiet (fail)
   go_wp2
   go_ret
   refine ⟨ret_bool ?_, (Keeps.refl _ _).drewN _⟩
   simp [St.sees, Px.sees, Px.txt, hs1]
  | t :: r, h =>
   have hwf : Px.Wf t := h.good.wf t (by simp)
   obtain ⟨g, off, L, cap, i, c0, c1, hi, hL, hcap, d0, d1, -, -, -⟩ := h.head
   have hlt : decide ((i : Int) < (L : Int)) = true := by simp; omega
   have hlt' : decide (i < L) = true := by simp; omega
   by_cases hk : t.kind = 1
   ·
    have HB := Hd (show Px.sees (t :: r) s = false by
     have := hs.num hwf hk
     simpa [Px.sees, Px.txt] using this)
    rw [hk] at d0
    clear h hs hwf hk
    go_enter Tryz.func39, Tryz.ntmps39
    go_wp2
    go_quiet (fail)
    go_wp2
    go_ret
    exact ⟨ret_bool HB.out.symm, (Keeps.refl _ _).drewN _⟩
   ·
    have HB := Hd (show Px.sees (t :: r) s = ((strO t.text).toList == (strO s).toList) by rw [strO_eq]; rfl)
    obtain ⟨z, hz⟩ : ∃ z : Int, z = (t.kind : Int) := ⟨_, rfl⟩
    have hz1 : (z == 1) = false := by rw [hz]; simp; omega
    have hz2 : (z != 1) = true := by rw [hz]; simp; omega
    have hz3 : decide (z = 1) = false := by rw [hz]; simp; omega
    obtain ⟨x, hx⟩ : ∃ x, x = strO t.text := ⟨_, rfl⟩
    obtain ⟨y, hy⟩ : ∃ y, y = strO s := ⟨_, rfl⟩
    rw [← hz] at d0
    rw [← hx] at d1 HB
    rw [← hy] at HB ⊢
    clear h hs hwf hk hz hx hy
    go_enter Tryz.func39, Tryz.ntmps39
    go_wp2
    go_quiet (fail)
    go_wp2
    go_ret
    exact ⟨ret_bool HB.out.symm, (Keeps.refl _ _).drewN _⟩
theorem SA.setI {w : World} {b n : Nat} {t : Tok} {r : List Tok} {o k : Nat} (h : SA w b n (.live (t :: r) o k)) {i : Nat} (hi : w.cell? ⟨b, 1, none⟩ = some (.int .i64 ((i : Nat) : Int))) : SA (w.setCell ⟨b, 1, none⟩ (.int .i64 ((i : Int) + 1))) b n (.live r o k) := by
 obtain ⟨A, cap, g, all, j, h1, h2, h3, h4, h5, h6, h7, h8⟩ := h
 have c1 := row_cell h1 1
 simp only [List.getElem?_toArray, List.getElem?_cons_zero, List.getElem?_cons_succ] at c1
 rw [c1] at hi
 have hij : j = i := by simp at hi; omega
 subst hij
 have hl := congrArg List.length h3
 simp at hl
 refine ⟨A, cap, g, all, j + 1, by rw [row_set h1]; rfl, h2.keep (S := [b]) ((Keeps.refl _ _).setCell (by simp) _) (by simp; omega), ?_, by omega, h5, h6, h7, h8⟩
 have := congrArg List.tail h3
 simpa using this
theorem SA.row {w : World} {b n : Nat} {ts : List Tok} {o k : Nat} (h : SA w b n (.live ts o k)) : ∃ cs : Array Value, w.heap[b]? = some (.cells cs 81 (0, 0)) ∧ w.cell? ⟨b, 2, none⟩ = some (.int .i64 (n : Int)) ∧ w.cell? ⟨b, 3, none⟩ = some (.int .i64 0) ∧ w.cell? ⟨b, 4, none⟩ = some (.int .i64 0) ∧ w.cell? ⟨b, 5, none⟩ = some (.int .i64 (o : Int)) ∧ w.cell? ⟨b, 6, none⟩ = some (.int .i64 (k : Int)) ∧ ∀ j, w.frozen? ⟨b, j, none⟩ = false := by
 obtain ⟨A, cap, g, all, j, h1, h2, h3, h4, h5, h6, h7, h8⟩ := h
 refine ⟨_, h1, ?_, ?_, ?_, ?_, ?_, row_free h1⟩
 · have := row_cell h1 2; simpa using this
 · have := row_cell h1 3; simpa using this
 · have := row_cell h1 4; simpa using this
 · have := row_cell h1 5; simpa using this
 · have := row_cell h1 6; simpa using this
theorem SA.die {w : World} {b n : Nat} {ts : List Tok} {o k : Nat} (h : SA w b n (.live ts o k)) (z : Nat) (hz : 0 < z) (hz2 : z ≤ 100) : SA (w.setCell ⟨b, 3, none⟩ (.int .i64 (z : Int))) b n (.dead z 0 o) := by
 obtain ⟨A, cap, g, all, j, h3, _⟩ := h
 exact ⟨hz, hz2, _, _, _, _, _, row_set h3 3 _⟩
theorem SA.setAt {w : World} {b n z p o : Nat} (h : SA w b n (.dead z p o)) (q : Nat) : SA (w.setCell ⟨b, 4, none⟩ (.int .i64 (q : Int))) b n (.dead z q o) := by
 obtain ⟨hz, hz2, A, L, cap, i, k, h⟩ := h
 exact ⟨hz, hz2, _, _, _, _, _, row_set h 4 _⟩
theorem SA.drewN {w : World} {b n : Nat} {σ : St} (h : SA w b n σ) (m : Nat) : SA (w.drewN m) b n σ := h.keep ((Keeps.refl _ _).drewN m)
theorem qfail_any (w : World) (b n : Nat) (σ : St) (h : SA w b n σ) (z : Nat) (hz : 0 < z) (hz2 : z ≤ 100) :
 Calls Tryz.prog 41 #[pp b, .int .i64 (z : Int)] w fun e w' => e = .returned (.tuple #[]) ∧ SA w' b n (σ.fail n z) ∧ Keeps [b] w w' := by
 have c3 := h.flag
 cases σ with
 | dead y p o =>
  have hy : ((y : Int) == 0) = false := by have := h.1; simp; omega
  have hy' : decide ((y : Int) = 0) = false := by have := h.1; simp; omega
  simp only [St.err] at c3
  have H := Hd h
  clear h
  go_enter Tryz.func41, Tryz.ntmps41
  go_wp2
  go_end0
  exact ⟨rfl, H.out, Keeps.refl _ _⟩
 | live ts o k =>
  simp only [St.err] at c3
  obtain ⟨cs, hrow, c2, -, c4, -, -, hfz⟩ := h.row
  have f3 := hfz 3
  have f4 := hfz 4
  have H := Hd h
  match ts, h, H with
  | [], h, H =>
   obtain ⟨A, L, cap, c0, c1⟩ := h.empty
   have hlt : decide ((L : Int) < (L : Int)) = false := by simp
   clear h hrow hfz
   go_enter Tryz.func41, Tryz.ntmps41
   go_wp2
   go_quiet (fail)
   go_wp2
   go_end0
   exact ⟨rfl, ((H.out.die z hz hz2).setAt n).drewN _, (((Keeps.refl [b] _).setCell (by simp) _).setCell (by simp) _).drewN _⟩
  | t :: r, h, H =>
   obtain ⟨g, off, L, cap, i, c0, c1, hi, hL, hcap, -, -, d2, -, hgb⟩ := h.head
   have hlt : decide ((i : Int) < (L : Int)) = true := by simp; omega
   have hlt' : decide (i < L) = true := by simp; omega
   have hne : g ≠ b := by omega
   clear h hrow hfz hgb
   go_enter Tryz.func41, Tryz.ntmps41
   go_wp2
   go_quiet (fail)
   go_wp2
   go_region
   go_wp2
   go_end0
   exact ⟨rfl, (((H.out.die z hz hz2).setAt n).drewN _).setAt t.at_, ((((Keeps.refl _ _).set1 _ _).set1 _ _).drewN _).set1 _ _⟩
theorem qtake_any (w : World) (b n : Nat) (σ : St) (h : SA w b n σ) (s : Tx) (hs : Sign s := by exact ⟨by simp, by simp; decide⟩) :
 Calls Tryz.prog 37 #[pp b, .string (strO s)] w fun e w' => e = .returned (.bool (σ.sees s)) ∧ SA w' b n (σ.take s) ∧ Keeps [b] w w' := by
 have HS := Hd (qis_any w b n σ h s hs)
 unfold St.take
 by_cases hy : σ.sees s = true
 ·
  cases σ with
  | dead z p o => cases hy
  | live ts o k =>
   obtain ⟨t, r, rfl, -⟩ := sees_cons hs.1 hy
   rw [hy] at HS ⊢
   rw [if_pos rfl]
   have H := Hd h
   clear h hy
   go_enter Tryz.func37, Tryz.ntmps37
   go_wp2_with fail
   refine (HS.out).mono ?_
   rintro e w1 ⟨rfl, hk⟩
   have H1 := Hd (H.out.keep hk)
   have HK := Hd hk
   obtain ⟨g, off, L, cap, i, c0, c1, hi, hL, hcap, -, -, -, -, hgb⟩ := H1.out.head
   obtain ⟨cs, hrow, -, -, -, -, -, hfz⟩ := H1.out.row
   have f1 := hfz 1
   have HC := Hd c1
   clear hrow hfz hk c0 hgb
   go_wp2
   go_ret
   exact ⟨rfl, H1.out.setI HC.out, (HK.out.mono (by simp)).set1 _ _⟩
 ·
  rw [if_neg hy]
  have hn : σ.sees s = false := by simpa using hy
  rw [hn] at HS ⊢
  have H := Hd h
  clear h hy hn
  go_enter Tryz.func37, Tryz.ntmps37
  go_wp2_with fail
  refine (HS.out).mono ?_
  rintro e w1 ⟨rfl, hk⟩
  have HK := Hd hk
  clear hk
  go_wp2
  go_ret
  exact ⟨rfl, H.out.keep HK.out, HK.out.mono (by simp)⟩
theorem qwant_any (w : World) (b n : Nat) (σ : St) (h : SA w b n σ) (s : Tx) (hs : Sign s := by exact ⟨by simp, by simp; decide⟩) :
 Calls Tryz.prog 35 #[pp b, .string (strO s)] w fun e w' => e = .returned (.tuple #[]) ∧ SA w' b n (σ.want n s) ∧ Keeps [b] w w' := by
 have HS := Hd (qtake_any w b n σ h s hs)
 unfold St.want
 unfold St.take at HS
 by_cases hy : σ.sees s = true
 ·
  rw [if_pos hy] at HS ⊢
  rw [hy] at HS
  clear h hy
  go_enter Tryz.func35, Tryz.ntmps35
  go_wp2_with fail
  refine (HS.out).mono ?_
  rintro e w1 ⟨rfl, h1, hk⟩
  have H1 := Hd h1
  have HK := Hd hk
  clear hk h1
  go_wp2
  go_end0
  exact ⟨rfl, H1.out, HK.out⟩
 ·
  rw [if_neg hy] at HS ⊢
  have hn : σ.sees s = false := by simpa using hy
  rw [hn] at HS
  have HF := Hd (fun w' (h : SA w' b n σ) => qfail_any w' b n σ h 51 (by omega) (by omega))
  clear h hy hn
  go_enter Tryz.func35, Tryz.ntmps35
  go_wp2_with fail
  refine (HS.out).mono ?_
  rintro e w1 ⟨rfl, h1, hk⟩
  have H1 := Hd h1
  have HK := Hd hk
  clear hk h1
  go_wp2_with fail
  refine (HF.out _ H1.out).mono ?_
  rintro e w2 ⟨rfl, h2, hk2⟩
  have H2 := Hd h2
  have HK2 := zV HK hk2
  clear h2 hk2
  go_wp2
  go_end0
  exact ⟨rfl, H2.out, HK2.out⟩
end
section
set_option maxHeartbeats 2000000
set_option maxRecDepth 100000
open Go.RowKit Go.Shelf
open Lx (Tok Tx)
open Px (Ex Cn)
def wordCells : Array Value := #[.string ⟨#[102, 110]⟩, .string ⟨#[118, 97, 114]⟩, .string ⟨#[112, 116, 114]⟩, .string ⟨#[105, 102]⟩, .string ⟨#[101, 108, 115, 101]⟩, .string ⟨#[119, 104, 105, 108, 101]⟩, .string ⟨#[114, 101, 116, 117, 114, 110]⟩, .string ⟨#[97, 115, 115, 101, 114, 116]⟩, .string ⟨#[110, 117, 108, 108]⟩, .string ⟨#[99, 101, 108, 108]⟩, .string ⟨#[97, 114, 114, 97, 121]⟩]
theorem wordCells_get : ∀ (k : Nat) (h : k < Px.words.length), wordCells[k]? = some (.string (strO Px.words[k]))
 | 0, _ => rfl | 1, _ => rfl | 2, _ => rfl | 3, _ => rfl | 4, _ => rfl | 5, _ => rfl | 6, _ => rfl | 7, _ => rfl | 8, _ => rfl | 9, _ => rfl | 10, _ => rfl
 | n + 11, h => by exact absurd h (by simp [Px.words])
theorem qword_any (w : World) (s : Tx) :
 Calls Tryz.prog 89 #[.string (strO s)] w fun e w' => e = .returned (.bool (Px.words.contains s)) ∧ Keeps [] w w' := by
 have HS := Hd (strO_toList s)
 have HE := Hd (fun (a : Tx) => strO_eq a s)
 obtain ⟨y, hy⟩ : ∃ y, y = strO s := ⟨_, rfl⟩
 rw [← hy] at HS HE ⊢
 clear hy
 go_enter Tryz.func89, Tryz.ntmps89
 go_wp2
 have hcell : ∀ k, (w.alloc (.cells wordCells 9)).cell? ⟨w.heap.size, k, none⟩ = wordCells[k]? := fun k => row_cell (heap_alloc_new w _) k
 have HC := Hd hcell
 clear hcell
 go_loop [4] (fun i => ∃ k : Nat, k ≤ 11 ∧ i = .int .i64 (k : Int) ∧ ∀ j, j < k → Px.words[j]? ≠ some s) (fun i => 11 - (intOf i).toNat)
 case atStart => exact ⟨0, by omega, rfl, fun j hj => by omega⟩
 case round =>
  obtain ⟨k, hk, rfl, hno⟩ := hrel
  have HNO := Hd hno
  clear hno
  by_cases hlt : k < 11
  ·
   have h1 := HC.out k
   rw [wordCells_get k hlt] at h1
   have HEQ := Hd (HE.out Px.words[k])
   obtain ⟨x, hx⟩ : ∃ x, x = strO Px.words[k] := ⟨_, rfl⟩
   rw [← hx] at h1 HEQ
   have HX := Hd hx
   clear hx
   unfold wordCells at h1
   by_cases hxy : (x.toList == y.toList) = true
   ·
    go_wp2
    go_ret
    refine ⟨ret_bool ?_, (Keeps.refl _ _).alloc _⟩
    have h2 : Px.words[k] = s := by have := HEQ.out.symm.trans hxy; simpa using this
    have h3 : s ∈ Px.words := h2 ▸ List.getElem_mem _
    simp [h3]
   ·
    have hxy' : (x.toList == y.toList) = false := by simpa using hxy
    clear hxy
    go_wp2
    go_round
    case rel =>
     refine ⟨k + 1, by omega, by go_num, fun j hj => ?_⟩
     by_cases hjk : j < k
     · exact HNO.out j hjk
     ·
      obtain rfl : j = k := by omega
      intro h
      have h2 := HEQ.out.symm.trans hxy'
      rw [List.getElem?_eq_getElem hlt] at h
      simp at h h2
      exact h2 h
    case measure => simp [intOf]; omega
  ·
   go_wp2
   go_ret
   refine ⟨ret_bool ?_, (Keeps.refl _ _).alloc _⟩
   have h3 : ¬ s ∈ Px.words := fun h => by
    obtain ⟨j, hj, hjs⟩ := List.getElem_of_mem h
    have hj2 : j < 11 := hj
    exact HNO.out j (by omega) (by rw [List.getElem?_eq_getElem hj, hjs])
   simp [h3]
theorem qnamed_any (w : World) (b n : Nat) (σ : St) (h : SA w b n σ) :
 Calls Tryz.prog 45 #[pp b] w fun e w' => e = .returned (.bool σ.named) ∧ Keeps [] w w' := by
 have c3 := h.flag
 cases σ with
 | dead z p o =>
  have hz : ((z : Int) == 0) = false := by have := h.1; simp; omega
  have hz' : decide ((z : Int) = 0) = false := by have := h.1; simp; omega
  simp only [St.err] at c3
  clear h
  go_enter Tryz.func45, Tryz.ntmps45
  go_wp2
  go_region
  go_wp2
  go_ret
  exact ⟨rfl, (Keeps.refl _ _).drewN _⟩
 | live ts o k =>
  simp only [St.err] at c3
  match ts, h with
  | [], h =>
   obtain ⟨A, L, cap, c0, c1⟩ := h.empty
   clear h
   go_enter Tryz.func45, Tryz.ntmps45
   go_wp2
   go_region
   go_wp2
   go_ret
   exact ⟨rfl, (Keeps.refl _ _).drewN _⟩
  | t :: r, h =>
   obtain ⟨g, off, L, cap, i, c0, c1, hi, hL, hcap, d0, d1, -, -, -⟩ := h.head
   have hlt : decide ((i : Int) < (L : Int)) = true := by simp; omega
   have hlt' : decide (i < L) = true := by simp; omega
   by_cases hk : t.kind = 0
   ·
    have HB := Hd (show St.named (.live (t :: r) o k) = !Px.words.contains t.text by simp [St.named, Px.isName, hk])
    have HW := Hd (fun w' => qword_any w' t.text)
    obtain ⟨v, hv⟩ : ∃ v, v = Px.words.contains t.text := ⟨_, rfl⟩
    rw [← hv] at HB HW
    rw [hk] at d0
    obtain ⟨x, hx⟩ : ∃ x, x = strO t.text := ⟨_, rfl⟩
    rw [← hx] at d1 HW
    clear h hk hv hx
    go_enter Tryz.func45, Tryz.ntmps45
    go_wp2
    go_still_tail 43, (by kernel_rfl)
    change wpList _ _ _ _ _ w.drew
    have HKD := Hd ((Keeps.refl [] w).drew)
    generalize w.drew = w2 at HKD ⊢
    go_wp2_with fail
    refine (HW.out _).mono ?_
    rintro e w1 ⟨rfl, hk⟩
    have HK := Hd (HKD.out.trans hk (by simp))
    clear hk
    go_wp2
    go_ret
    exact ⟨ret_bool HB.out.symm, HK.out⟩
   ·
    obtain ⟨z, hz⟩ : ∃ z : Int, z = (t.kind : Int) := ⟨_, rfl⟩
    have hz1 : (z == 0) = false := by rw [hz]; simp; omega
    have hz3 : decide (z = 0) = false := by rw [hz]; simp; omega
    have HB := Hd (show St.named (.live (t :: r) o k) = false by simp [St.named, Px.isName, hk])
    rw [← hz] at d0
    clear h hk hz
    go_enter Tryz.func45, Tryz.ntmps45
    go_wp2
    go_region
    go_wp2
    go_ret
    exact ⟨ret_bool HB.out.symm, (Keeps.refl _ _).drewN _⟩
theorem SA.prev {w : World} {b n : Nat} {t : Tok} {r : List Tok} {o k : Nat} (h : SA w b n (.live (t :: r) o k)) : ∃ g off L cap i, w.cell? ⟨b, 0, none⟩ = some (.slice (some ⟨g, off, none⟩) L cap) ∧ w.cell? ⟨b, 1, none⟩ = some (.int .i64 ((i : Nat) : Int)) ∧ i < L ∧ L ≤ 5000 ∧
 (∀ v, (w.setCell ⟨b, 1, none⟩ v).cell? ⟨b, 0, none⟩ = some (.slice (some ⟨g, off, none⟩) L cap)) ∧ (∀ v, (w.setCell ⟨b, 1, none⟩ v).cell? ⟨g, off + i * 3 + 1, none⟩ = some (.string (strO t.text))) ∧ (∀ v, (w.setCell ⟨b, 1, none⟩ v).cell? ⟨b, 1, none⟩ = some v) ∧ w.frozen? ⟨b, 1, none⟩ = false ∧ SA (w.setCell ⟨b, 1, none⟩ (.int .i64 ((i : Int) + 1))) b n (.live r o k) := by
 obtain ⟨g, off, L, cap, i, c0, c1, hi, hL, hcap, -, d1, -, -, hgb⟩ := h.head
 obtain ⟨cs, hrow, -, -, -, -, -, hfz⟩ := h.row
 refine ⟨g, off, L, cap, i, c0, c1, hi, hL, fun v => ?_, fun v => ?_, fun v => ?_, hfz 1, h.setI c1⟩
 · exact (World.cell?_setCell_other _ _ _ _ (by simp)).trans c0
 · exact (World.cell?_setCell_other _ _ _ _ (ne_blk (by omega))).trans d1
 ·
  have h1 := row_set hrow 1 v
  rw [row_cell h1]
  have := row_cell hrow 1
  rw [c1] at this
  obtain ⟨hlt, _⟩ := Array.getElem?_eq_some_iff.1 this.symm
  simp [hlt]
theorem qname_any (w : World) (b n : Nat) (σ : St) (h : SA w b n σ) :
 Calls Tryz.prog 36 #[pp b] w fun e w' => (∃ s : Tx, e = .returned (.string (strO s)) ∧ ∀ ts o k, σ = .live ts o k → Px.isName ts = true → s = Px.txt ts 0) ∧ SA w' b n (σ.name n) ∧ Keeps [b] w w' := by
 have HS := Hd (qnamed_any w b n σ h)
 unfold St.name
 by_cases hy : σ.named = true
 ·
  cases σ with
  | dead z p o => cases hy
  | live ts o k =>
   obtain ⟨t, r, rfl⟩ := isName_cons hy
   rw [hy] at HS
   rw [if_pos hy]
   have HG := Hd (show ∀ ts' o' k', St.live (t :: r) o k = .live ts' o' k' → Px.isName ts' = true → t.text = Px.txt ts' 0 from fun ts' o' k' h _ => by
    injection h with h; subst h; rfl)
   have H := Hd h
   clear h hy
   go_enter Tryz.func36, Tryz.ntmps36
   go_wp2_with fail
   refine (HS.out).mono ?_
   rintro e w1 ⟨rfl, hk⟩
   obtain ⟨g, off, L, cap, i, c0, c1, hi, hL, e0, d1, e1, f1, hq⟩ := (H.out.keep hk).prev
   have HK := Hd hk
   have HQ := Hd hq
   have e0' := e0 (.int .i64 ((i : Int) + 1))
   have d1' := d1 (.int .i64 ((i : Int) + 1))
   have e1' := e1 (.int .i64 ((i : Int) + 1))
   have hs1 : IntKind.i64.wrap ((i : Int) + 1 - 1) = (i : Int) := by rw [show (i : Int) + 1 - 1 = i by omega]; exact IntWalk.i64_in _ (by omega)
   have hs2 : (i : Int) + 1 - 1 = (i : Int) := by omega
   clear hk hq c0 e0 d1 e1
   go_wp2
   go_quiet (fail)
   go_wp2
   go_ret
   exact ⟨⟨_, rfl, HG.out⟩, HQ.out.drewN _, ((HK.out.mono (by simp)).set1 _ _).drewN _⟩
 ·
  rw [if_neg hy]
  have hn : σ.named = false := by simpa using hy
  rw [hn] at HS
  have HG := Hd (show ∀ ts' o' k', σ = .live ts' o' k' → Px.isName ts' = true → ([] : Tx) = Px.txt ts' 0 from fun ts' o' k' h h2 => by
   subst h; exact absurd h2 hy)
  have H := Hd h
  have HF := Hd (fun w' (h : SA w' b n σ) => qfail_any w' b n σ h 51 (by omega) (by omega))
  clear h hy hn
  go_enter Tryz.func36, Tryz.ntmps36
  go_wp2_with fail
  refine (HS.out).mono ?_
  rintro e w1 ⟨rfl, hk⟩
  have HK := Hd hk
  clear hk
  go_wp2_with fail
  refine (HF.out _ (H.out.keep HK.out)).mono ?_
  rintro e w2 ⟨rfl, h2, hk2⟩
  have H2 := Hd h2
  have HK2 := Hd ((HK.out.mono (by simp)).trans hk2 (fun _ h _ => h))
  clear h2 hk2
  go_wp2
  go_ret
  exact ⟨⟨[], rfl, HG.out⟩, H2.out, HK2.out⟩
def St.open (n : Nat) : St → Bool × St
 | .live ts o k => if 40 ≤ o then (false, .dead 52 (Px.place n ts) o) else (true, .live ts (o + 1) k)
 | .dead z p o => (false, .dead z p o)
theorem SA.setO {w : World} {b n : Nat} {ts : List Tok} {o k : Nat} (h : SA w b n (.live ts o k)) (o' : Nat) : SA (w.setCell ⟨b, 5, none⟩ (.int .i64 (o' : Int))) b n (.live ts o' k) := by
 obtain ⟨A, cap, g, all, j, h1, h2, h3, h4, h5, h6, h7, h8⟩ := h
 exact ⟨A, cap, g, all, j, by rw [row_set h1]; rfl, h2.keep (S := [b]) ((Keeps.refl _ _).setCell (by simp) _) (by simp; omega), h3, h4, h5, h6, h7, h8⟩
theorem qopen_any (w : World) (b n : Nat) (σ : St) (h : SA w b n σ) (ho : ∀ ts o k, σ = .live ts o k → o ≤ 1000) :
 Calls Tryz.prog 40 #[pp b] w fun e w' => e = .returned (.bool (σ.open n).1) ∧ SA w' b n (σ.open n).2 ∧ Keeps [b] w w' := by
 have c3 := h.flag
 cases σ with
 | dead z p o =>
  have hz : ((z : Int) != 0) = true := by have := h.1; simp; omega
  have hz' : decide ((z : Int) = 0) = false := by have := h.1; simp; omega
  simp only [St.err] at c3
  have H := Hd h
  clear h ho
  go_enter Tryz.func40, Tryz.ntmps40
  go_wp2
  go_ret
  exact ⟨rfl, H.out, Keeps.refl _ _⟩
 | live ts o k =>
  simp only [St.err] at c3
  have ho2 := ho ts o k rfl
  obtain ⟨cs, hrow, -, -, -, c5, -, hfz⟩ := h.row
  have f5 := hfz 5
  have H := Hd h
  by_cases h40 : 40 ≤ o
  ·
   have HR := Hd (show St.open n (.live ts o k) = (false, .dead 52 (Px.place n ts) o) by simp [St.open, h40])
   have HF := Hd (qfail_any w b n _ h 52 (by omega) (by omega))
   have hge : decide ((40 : Int) ≤ (o : Int)) = true := by simp; omega
   clear h hrow hfz ho
   go_enter Tryz.func40, Tryz.ntmps40
   go_wp2_with fail
   refine (HF.out).mono ?_
   rintro e w1 ⟨rfl, h1, hk⟩
   have H1 := Hd h1
   have HK := Hd hk
   clear h1 hk
   go_wp2
   go_ret
   rw [HR.out]
   exact ⟨rfl, H1.out, HK.out⟩
  ·
   have HR := Hd (show St.open n (.live ts o k) = (true, .live ts (o + 1) k) by simp [St.open, h40])
   have hge : decide ((40 : Int) ≤ (o : Int)) = false := by simp; omega
   clear h hrow hfz ho
   go_enter Tryz.func40, Tryz.ntmps40
   go_wp2
   go_ret
   rw [HR.out]
   exact ⟨rfl, H.out.setO (o + 1), (Keeps.refl _ _).set1 _ _⟩
end
section
set_option maxHeartbeats 2000000
set_option maxRecDepth 100000
open Go.RowKit Go.Shelf
open Lx (Tok Tx)
theorem val_take_le (l : Tx) (k : Nat) : Lx.val (l.take k) ≤ Lx.val l := by
 have h : Lx.val l = (l.drop k).foldl (fun a b => 10 * a + (b.toNat - 48)) (Lx.val (l.take k)) := by
  unfold Lx.val
  rw [← List.foldl_append, List.take_append_drop]
 rw [h]
 exact Lx.val_cons_le _ _
theorem val_take_next (l : Tx) (k : Nat) (h : k < l.length) : Lx.val (l.take (k + 1)) = 10 * Lx.val (l.take k) + (l[k].toNat - 48) := by
 rw [List.take_succ_eq_append_getElem h, Lx.val_snoc]
theorem ret_i64 {a b : Int} (h : a = b) : Ending.returned (.int .i64 a) = .returned (.int .i64 b) := by rw [h]
theorem qnumber_any (w : World) (l : Tx) (hl : l.length ≤ 5000) (hd : ∀ b ∈ l, Lx.digit b = true) (hv : Lx.val l ≤ 9223372036854775807) :
 Calls Tryz.prog 46 #[.string (strO l)] w fun e w' => e = .returned (.int .i64 ((Lx.val l : Nat) : Int)) ∧ w = w' := by
 obtain ⟨s, hs⟩ : ∃ s, s = strO l := ⟨_, rfl⟩
 have hsz : s.size = l.length := by rw [hs, strO_len]
 have hget : ∀ (k : Nat) (h : k < s.size) (h2 : k < l.length), s[k] = l[k] := fun k h h2 => by subst hs; exact strO_get l k h
 have HG := Hd hget
 rw [← hs]
 have HSZ := Hd hsz
 have hb : s.size ≤ 5000 := by rw [hsz]; exact hl
 have HD := Hd hd
 have HV := Hd hv
 clear hget hs hsz hd hv hl
 go_enter Tryz.func46, Tryz.ntmps46
 go_wp2
 go_loop [3, 4] (fun n i => ∃ k : Nat, k ≤ s.size ∧ i = .int .i64 (k : Int) ∧ n = .int .i64 ((Lx.val (l.take k) : Nat) : Int)) (fun _ i => s.size - (intOf i).toNat)
 case atStart => exact ⟨0, by omega, rfl, by simp [Lx.val]⟩
 case round =>
  obtain ⟨k, hk, rfl, rfl⟩ := hrel
  by_cases hlt : k < s.size
  ·
   have hlt2 : k < l.length := by rw [← HSZ.out]; exact hlt
   have h1 := val_take_next l k hlt2
   have h2 := val_take_le l (k + 1)
   have h3 := HV.out
   have h4 := HD.out l[k] (List.getElem_mem _)
   have h5 : 48 ≤ l[k].toNat ∧ l[k].toNat ≤ 57 := by simpa [Lx.digit] using h4
   have h6 := HG.out k hlt hlt2
   obtain ⟨d, hd⟩ : ∃ d, d = l[k].toNat := ⟨_, rfl⟩
   have h7 : s[k].toNat = d := by rw [h6, hd]
   rw [← hd] at h1 h5
   obtain ⟨v, hv⟩ : ∃ v, v = Lx.val (l.take k) := ⟨_, rfl⟩
   rw [← hv] at h1 ⊢
   have hx : 10 * (v : Int) + ((d : Int) - 48) ≤ 9223372036854775807 := by omega
   have hd1 : (48 : Int) ≤ d := by omega
   have hd2 : (d : Int) ≤ 57 := by omega
   have HN := Hd (show ((Lx.val (l.take (k + 1)) : Nat) : Int) = 10 * (v : Int) + ((d : Int) - 48) by omega)
   clear h1 h2 h3 h4 h6 h5 hd hv
   go_wp2
   go_round
   case rel => exact ⟨k + 1, by omega, by go_num, by rw [HN.out]⟩
   case measure => simp [intOf]; omega
  ·
   have hk2 : k = l.length := by have := HSZ.out; omega
   have hr : Lx.val (l.take k) = Lx.val l := by rw [hk2, List.take_length]
   have HR := Hd hr
   clear hr
   go_wp2
   go_ret
   exact ⟨ret_i64 (by first | rfl | rw [HR.out]), rfl⟩
end
end Go.Proofs.YtbikifibfaaggaaGreatDoor
