/- Expressions and conditions in memory; what reading a part leaves; a part within brackets. -/
import Derived.Test.YtbikifibfaaggaaGreatDoorPBase
namespace Go.Proofs.YtbikifibfaaggaaGreatDoor
open Go.RowKit Go.Shelf
open Lx (Tok Tx)
open Px (Ex Cn)

/-- An expression in memory, above block b. -/
def ExAt (w : World) (b : Nat) : Ex → Value → Prop
  | .num m, v => ∃ x, v = .pointer (some ⟨x, 0, none⟩) ∧ b < x ∧ w.heap[x]? = some (.cells #[.int .i64 0, .int .i64 (m : Int), .string .empty, .pointer none, .pointer none] 74 (0, 0))
  | .var s, v => ∃ x, v = .pointer (some ⟨x, 0, none⟩) ∧ b < x ∧ w.heap[x]? = some (.cells #[.int .i64 1, .int .i64 0, .string (strO s), .pointer none, .pointer none] 74 (0, 0))
  | .neg a, v => ∃ x va, v = .pointer (some ⟨x, 0, none⟩) ∧ b < x ∧ w.heap[x]? = some (.cells #[.int .i64 7, .int .i64 0, .string .empty, va, .pointer none] 74 (0, 0)) ∧ ExAt w b a va
  | .bin k a c, v => ∃ x va vc, v = .pointer (some ⟨x, 0, none⟩) ∧ b < x ∧ w.heap[x]? = some (.cells #[.int .i64 (k : Int), .int .i64 0, .string .empty, va, vc] 74 (0, 0)) ∧ ExAt w b a va ∧ ExAt w b c vc
theorem ExAt.keep {w w' : World} {b : Nat} {S : List Nat} (hk : Keeps S w w') (hS : ∀ y ∈ S, y ≤ b) : ∀ {e : Ex} {v : Value}, ExAt w b e v → ExAt w' b e v
  | .num m, v, h => by
    obtain ⟨x, h1, h2, h3⟩ := h
    exact ⟨x, h1, h2, block_keep h3 hk (fun h => by have := hS _ h; omega)⟩
  | .var s, v, h => by
    obtain ⟨x, h1, h2, h3⟩ := h
    exact ⟨x, h1, h2, block_keep h3 hk (fun h => by have := hS _ h; omega)⟩
  | .neg a, v, h => by
    obtain ⟨x, va, h1, h2, h3, h4⟩ := h
    exact ⟨x, va, h1, h2, block_keep h3 hk (fun h => by have := hS _ h; omega), h4.keep hk hS⟩
  | .bin k a c, v, h => by
    obtain ⟨x, va, vc, h1, h2, h3, h4, h5⟩ := h
    exact ⟨x, va, vc, h1, h2, block_keep h3 hk (fun h => by have := hS _ h; omega), h4.keep hk hS, h5.keep hk hS⟩
theorem ExAt.ptr {w : World} {b : Nat} {e : Ex} {v : Value} (h : ExAt w b e v) : ∃ x, v = .pointer (some ⟨x, 0, none⟩) := by
  cases e <;> (obtain ⟨x, h1⟩ := h; first | exact ⟨x, h1.1⟩ | (obtain ⟨_, h1, _⟩ := h1; exact ⟨x, h1⟩) | (obtain ⟨_, _, h1, _⟩ := h1; exact ⟨x, h1⟩))

/-- What reading a part leaves. -/
def RP {α : Type} (At : World → Nat → α → Value → Prop) (kk : α → Nat) (w : World) (b n o : Nat) (r : Px.R α) (e : Ending) (w' : World) : Prop :=
  match r with
  | .ok a ts => ∃ v, e = .returned v ∧ At w' b a v ∧ PAt w' b n ts o (kk a) ∧ Keeps [b] w w'
  | .err z ts => e = .panicked (died (z : Int)) ∧ (∃ o' k', PAt w' b n ts o' k') ∧ Keeps [b] w w'
theorem RP.from {α : Type} {At : World → Nat → α → Value → Prop} {kk : α → Nat} {w0 w : World} {b n o : Nat} {r : Px.R α} {e : Ending} {w' : World} (h : RP At kk w b n o r e w') (hk : Keeps [b] w0 w) : RP At kk w0 b n o r e w' := by
  cases r with
  | ok a ts =>
    obtain ⟨v, h1, h2, h3, h4⟩ := h
    exact ⟨v, h1, h2, h3, hk.trans h4 (fun _ h _ => h)⟩
  | err z ts =>
    obtain ⟨h1, h2, h3⟩ := h
    exact ⟨h1, h2, hk.trans h3 (fun _ h _ => h)⟩

theorem PAt.open {w : World} {b n o k : Nat} {ts : List Tok} (h : PAt w b n ts o k) : w.cell? ⟨b, 2, none⟩ = some (.int .i64 (o : Int)) ∧ w.frozen? ⟨b, 2, none⟩ = false ∧ w.cell? ⟨b, 3, none⟩ = some (.int .i64 (k : Int)) ∧ w.frozen? ⟨b, 3, none⟩ = false := by
  obtain ⟨_, A, cap, g, hb, ht, hg, hc, hm⟩ := h
  have c2 := row_cell hb 2
  have c3 := row_cell hb 3
  exact ⟨by simpa using c2, row_free hb 2, by simpa using c3, row_free hb 3⟩
theorem toks_set {w : World} {b g : Nat} {A : Option Addr} {ts : List Tok} (h : ToksIn w g A ts) (hg : g ≠ b) (j : Nat) (v : Value) : ToksIn (w.setCell ⟨b, j, none⟩ v) g A ts :=
  h.keep (S := [b]) ((Keeps.refl _ _).setCell (by simp) _) (by simpa using hg)
theorem PAt.setOpen {w : World} {b n o k : Nat} {ts : List Tok} (h : PAt w b n ts o k) (o' : Nat) : PAt (w.setCell ⟨b, 2, none⟩ (.int .i64 (o' : Int))) b n ts o' k := by
  obtain ⟨hw, A, cap, g, hb, ht, hg, hc, hm⟩ := h
  exact ⟨hw, A, cap, g, by rw [row_set hb]; rfl, toks_set ht (by omega) _ _, hg, hc, hm⟩
theorem PAt.setBegun {w : World} {b n o k : Nat} {ts : List Tok} (h : PAt w b n ts o k) (k' : Nat) : PAt (w.setCell ⟨b, 3, none⟩ (.int .i64 (k' : Int))) b n ts o k' := by
  obtain ⟨hw, A, cap, g, hb, ht, hg, hc, hm⟩ := h
  exact ⟨hw, A, cap, g, by rw [row_set hb]; rfl, toks_set ht (by omega) _ _, hg, hc, hm⟩

set_option maxHeartbeats 400000 in
theorem within_deep_E (w : World) (b n o k : Nat) (ts : List Tok) (h : PAt w b n ts o k) (s : Tx) (hy : Px.sees ts s = true) (fv : Value) (ho : 40 ≤ o) (ho2 : o ≤ 1000) :
    Calls Tryz.prog 231 #[pp b, .string (strO s), fv] w fun e w' => e = .panicked (died 52) ∧ w = w' := by
  have HS := Lib.hid (sees_any w b n o k ts h s)
  rw [hy] at HS
  have HN := Lib.hid (fun w' => pneed_yes w' 51)
  have HN2 := Lib.hid (fun w' => pneed_no w' 52)
  have HLT := Lib.hid (show decide ((o : Int) < 40) = false by simp; omega)
  have c2 := h.open.1
  obtain ⟨y, hyy⟩ : ∃ y, y = strO s := ⟨_, rfl⟩
  rw [← hyy] at HS ⊢
  clear h hy hyy ho
  go_enter Tryz.func231, Tryz.ntmps231
  go_wp2_with fail
  refine (HS.out).mono ?_
  rintro e w' ⟨rfl, rfl⟩
  go_wp2_with fail
  refine (HN.out _).mono ?_
  rintro e w' ⟨rfl, rfl⟩
  go_wp2_with fail
  rw [HLT.out]
  refine (HN2.out _).mono ?_
  rintro e w' ⟨rfl, rfl⟩
  go_wp2
  exact ⟨rfl, rfl, rfl⟩
set_option maxHeartbeats 1000000 in
set_option maxRecDepth 100000 in
theorem within_un (w : World) (b n o k : Nat) (t : Tok) (r : List Tok) (h : PAt w b n (t :: r) o k) (s : Tx) (hy : Px.sees (t :: r) s = true) (ho : o < 40) (kk : Ex → Nat) (rr : Px.R Ex)
    (hF : ∀ w1, PAt w1 b n r (o + 1) k → Calls Tryz.prog 224 #[pp b] w1 (RP ExAt kk w1 b n (o + 1) rr)) :
    Calls Tryz.prog 231 #[pp b, .string (strO s), .func (.func 224) #[pp b] #[]] w (RP ExAt kk w b n o rr) := by
  have HS := Lib.hid (sees_any w b n o k (t :: r) h s)
  rw [hy] at HS
  have HN := Lib.hid (fun w' => pneed_yes w' 51)
  have HN2 := Lib.hid (fun w' => pneed_yes w' 52)
  have HT := Lib.hid (take_any w b n o k t r h)
  have HLT := Lib.hid (show decide ((o : Int) < 40) = true by simp; omega)
  have c2 := h.open.1
  obtain ⟨y, hyy⟩ : ∃ y, y = strO s := ⟨_, rfl⟩
  obtain ⟨x, hx⟩ : ∃ x, x = strO t.text := ⟨_, rfl⟩
  rw [← hyy] at HS ⊢
  rw [← hx] at HT
  have HF := Lib.hid hF
  clear h hy hyy hx hF
  go_enter Tryz.func231, Tryz.ntmps231
  go_wp2_with fail
  refine (HS.out).mono ?_
  rintro e w' ⟨rfl, rfl⟩
  go_wp2_with fail
  refine (HN.out _).mono ?_
  rintro e w' ⟨rfl, rfl⟩
  go_wp2_with fail
  try rw [HLT.out]
  refine (HN2.out _).mono ?_
  rintro e w' ⟨rfl, rfl⟩
  go_wp2_with fail
  refine (HT.out).mono ?_
  rintro e w1 ⟨rfl, h1, h2⟩
  have H1 := Lib.hid h1
  have H2 := Lib.hid h2
  obtain ⟨d2, e2, _, _⟩ := h1.open
  clear h1 h2 c2
  go_wp2_with fail
  refine (HF.out _ (H1.out.setOpen (o + 1))).mono ?_
  intro e w2 hr
  cases rr with
  | ok a ts =>
    obtain ⟨v, rfl, h3, h4, h5⟩ := hr
    have H3 := Lib.hid h3
    have H4 := Lib.hid h4
    have H5 := Lib.hid h5
    obtain ⟨d3, e3, _, _⟩ := h4.open
    clear h3 h4 h5 d2 e2
    go_wp2_with fail
    go_ret
    exact ⟨v, rfl, H3.out.keep ((Keeps.refl [b] _).setCell (by simp) _) (by simp), by simpa using H4.out.setOpen o, ((H2.out.setCell (by simp) _).trans H5.out (fun _ h _ => h)).setCell (by simp) _⟩
  | err z ts =>
    obtain ⟨rfl, h4, h5⟩ := hr
    have H4 := Lib.hid h4
    have H5 := Lib.hid h5
    clear h4 h5 d2 e2
    go_wp2
    exact ⟨rfl, rfl, H4.out, (H2.out.setCell (by simp) _).trans H5.out (fun _ h _ => h)⟩
set_option maxHeartbeats 1000000 in
set_option maxRecDepth 100000 in
theorem within_sum (w : World) (b n o k : Nat) (t : Tok) (r : List Tok) (h : PAt w b n (t :: r) o k) (s : Tx) (hy : Px.sees (t :: r) s = true) (ho : o < 40) (kk : Ex → Nat) (rr : Px.R Ex)
    (hF : ∀ w1, PAt w1 b n r (o + 1) k → Calls Tryz.prog 179 #[pp b] w1 (RP ExAt kk w1 b n (o + 1) rr)) :
    Calls Tryz.prog 231 #[pp b, .string (strO s), .func (.func 179) #[pp b] #[]] w (RP ExAt kk w b n o rr) := by
  have HS := Lib.hid (sees_any w b n o k (t :: r) h s)
  rw [hy] at HS
  have HN := Lib.hid (fun w' => pneed_yes w' 51)
  have HN2 := Lib.hid (fun w' => pneed_yes w' 52)
  have HT := Lib.hid (take_any w b n o k t r h)
  have HLT := Lib.hid (show decide ((o : Int) < 40) = true by simp; omega)
  have c2 := h.open.1
  obtain ⟨y, hyy⟩ : ∃ y, y = strO s := ⟨_, rfl⟩
  obtain ⟨x, hx⟩ : ∃ x, x = strO t.text := ⟨_, rfl⟩
  rw [← hyy] at HS ⊢
  rw [← hx] at HT
  have HF := Lib.hid hF
  clear h hy hyy hx hF
  go_enter Tryz.func231, Tryz.ntmps231
  go_wp2_with fail
  refine (HS.out).mono ?_
  rintro e w' ⟨rfl, rfl⟩
  go_wp2_with fail
  refine (HN.out _).mono ?_
  rintro e w' ⟨rfl, rfl⟩
  go_wp2_with fail
  try rw [HLT.out]
  refine (HN2.out _).mono ?_
  rintro e w' ⟨rfl, rfl⟩
  go_wp2_with fail
  refine (HT.out).mono ?_
  rintro e w1 ⟨rfl, h1, h2⟩
  have H1 := Lib.hid h1
  have H2 := Lib.hid h2
  obtain ⟨d2, e2, _, _⟩ := h1.open
  clear h1 h2 c2
  go_wp2_with fail
  refine (HF.out _ (H1.out.setOpen (o + 1))).mono ?_
  intro e w2 hr
  cases rr with
  | ok a ts =>
    obtain ⟨v, rfl, h3, h4, h5⟩ := hr
    have H3 := Lib.hid h3
    have H4 := Lib.hid h4
    have H5 := Lib.hid h5
    obtain ⟨d3, e3, _, _⟩ := h4.open
    clear h3 h4 h5 d2 e2
    go_wp2_with fail
    go_ret
    exact ⟨v, rfl, H3.out.keep ((Keeps.refl [b] _).setCell (by simp) _) (by simp), by simpa using H4.out.setOpen o, ((H2.out.setCell (by simp) _).trans H5.out (fun _ h _ => h)).setCell (by simp) _⟩
  | err z ts =>
    obtain ⟨rfl, h4, h5⟩ := hr
    have H4 := Lib.hid h4
    have H5 := Lib.hid h5
    clear h4 h5 d2 e2
    go_wp2
    exact ⟨rfl, rfl, H4.out, (H2.out.setCell (by simp) _).trans H5.out (fun _ h _ => h)⟩
end Go.Proofs.YtbikifibfaaggaaGreatDoor
