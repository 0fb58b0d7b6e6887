import Derived.Test.YtbikifibfaaggaaGreatDoorVMP
import Derived.Test.YtbikifibfaaggaaGreatDoorVQFn3
import Derived.IntWalk
namespace Go.Proofs.YtbikifibfaaggaaGreatDoor
set_option maxHeartbeats 4000000
set_option maxRecDepth 100000
open Go.RowKit Go.Shelf
open Lx (Tok Tx)
open Px (Ex Cn Sm Vr)
theorem strW_cat (a b : List UInt8) : strO a ++ strO b = strO (a ++ b) := by
 apply ByteArray.ext
 simp [strO]
theorem strW_cat3 (a b c : List UInt8) : (strO a ++ strO b) ++ strO c = strO ((a ++ b) ++ c) := by rw [strW_cat, strW_cat]
def w14 : Array Value := #[.string ⟨#[102, 110]⟩, .string ⟨#[118, 97, 114]⟩, .string ⟨#[112, 116, 114]⟩, .string ⟨#[105, 102]⟩, .string ⟨#[101, 108, 115, 101]⟩, .string ⟨#[119, 104, 105, 108, 101]⟩, .string ⟨#[114, 101, 116, 117, 114, 110]⟩, .string ⟨#[97, 115, 115, 101, 114, 116]⟩, .string ⟨#[110, 117, 108, 108]⟩, .string ⟨#[99, 101, 108, 108]⟩, .string ⟨#[97, 114, 114, 97, 121]⟩, .string ⟨#[102, 110, 120]⟩, .string ⟨#[73, 102]⟩, .string ⟨#[95]⟩]
theorem w14_get : ∀ (k : Nat), k < 14 → w14[k]? = some (.string (strO (Px.wname k)))
 | 0, _ => rfl
 | 1, _ => rfl
 | 2, _ => rfl
 | 3, _ => rfl
 | 4, _ => rfl
 | 5, _ => rfl
 | 6, _ => rfl
 | 7, _ => rfl
 | 8, _ => rfl
 | 9, _ => rfl
 | 10, _ => rfl
 | 11, _ => rfl
 | 12, _ => rfl
 | 13, _ => rfl
 | n + 14, h => absurd h (by omega)
def w6 (x : ByteArray) : Array Value := #[.string (((⟨#[102, 110, 32]⟩ : ByteArray) ++ x) ++ (⟨#[40, 41, 32, 123, 32, 125]⟩ : ByteArray)), .string (((⟨#[102, 110, 32, 102, 40]⟩ : ByteArray) ++ x) ++ (⟨#[41, 32, 123, 32, 125]⟩ : ByteArray)), .string (((⟨#[102, 110, 32, 102, 40, 41, 32, 123, 32, 118, 97, 114, 32]⟩ : ByteArray) ++ x) ++ (⟨#[59, 32, 125]⟩ : ByteArray)), .string (((⟨#[102, 110, 32, 102, 40, 41, 32, 123, 32, 120, 32, 61, 32]⟩ : ByteArray) ++ x) ++ (⟨#[59, 32, 125]⟩ : ByteArray)), .string (((⟨#[102, 110, 32, 102, 40, 41, 32, 123, 32, 120, 32, 61, 32, 103, 40, 49, 44, 32]⟩ : ByteArray) ++ x) ++ (⟨#[41, 59, 32, 125]⟩ : ByteArray)), .string (((⟨#[102, 110, 32, 102, 40, 41, 32, 123, 32, 120, 32, 61, 32, 49, 32, 43, 32]⟩ : ByteArray) ++ x) ++ (⟨#[59, 32, 125]⟩ : ByteArray))]
theorem w6_get (i : Nat) : ∀ (k : Nat), k < 6 → (w6 (strO (Px.wname i)))[k]? = some (.string (strO (Px.wtext i k)))
 | 0, _ => congrArg (fun s => some (Value.string s)) (strW_cat3 [102, 110, 32] (Px.wname i) [40, 41, 32, 123, 32, 125])
 | 1, _ => congrArg (fun s => some (Value.string s)) (strW_cat3 [102, 110, 32, 102, 40] (Px.wname i) [41, 32, 123, 32, 125])
 | 2, _ => congrArg (fun s => some (Value.string s)) (strW_cat3 [102, 110, 32, 102, 40, 41, 32, 123, 32, 118, 97, 114, 32] (Px.wname i) [59, 32, 125])
 | 3, _ => congrArg (fun s => some (Value.string s)) (strW_cat3 [102, 110, 32, 102, 40, 41, 32, 123, 32, 120, 32, 61, 32] (Px.wname i) [59, 32, 125])
 | 4, _ => congrArg (fun s => some (Value.string s)) (strW_cat3 [102, 110, 32, 102, 40, 41, 32, 123, 32, 120, 32, 61, 32, 103, 40, 49, 44, 32] (Px.wname i) [41, 59, 32, 125])
 | 5, _ => congrArg (fun s => some (Value.string s)) (strW_cat3 [102, 110, 32, 102, 40, 41, 32, 123, 32, 120, 32, 61, 32, 49, 32, 43, 32] (Px.wname i) [59, 32, 125])
 | n + 6, h => absurd h (by omega)
theorem val_keep {w w' : World} {g : Option (Px.Fn × Nat)} {lo : Nat} {v : Value} (h : Val FnAt (.agg #[.string .empty, .slice none 0 0, .slice none 0 0, .slice none 0 0]) lo w g v) (hk : Keeps [] w w') : Val FnAt (.agg #[.string .empty, .slice none 0 0, .slice none 0 0, .slice none 0 0]) 0 w' g v := by
 cases g with
 | none => exact h
 | some p =>
  obtain ⟨b, _, vp, vl, vb, rfl, h1, h2, h3⟩ := h
  exact ⟨b, Nat.zero_le _, vp, vl, vb, rfl, vars_keep h1 hk, vars_keep h2 hk, h3.keepS hk (by simp)⟩
theorem pwords_nat (w : World) (he : ErrAt w) (bn cn : Nat) (hb : bn < 256) (hc : cn < 256) :
 Calls Tryz.prog 7 #[.int .u8 (bn : Int), .int .u8 (cn : Int)] w (Yes w) := by
 have HK0 := Hd (pknown_any w he)
 have HE := Hd he
 obtain ⟨i, hi⟩ : ∃ m, m = bn % 14 := ⟨_, rfl⟩
 have r14 : ((bn : Nat) : Int) % 14 = (i : Int) := by omega
 have t14 : ((bn : Nat) : Int).tmod 14 = (i : Int) := by rw [Int.tmod_eq_emod_of_nonneg (by omega)]; omega
 obtain ⟨j, hj⟩ : ∃ m, m = cn % 6 := ⟨_, rfl⟩
 have r6 : ((cn : Nat) : Int) % 6 = (j : Int) := by omega
 have t6 : ((cn : Nat) : Int).tmod 6 = (j : Int) := by rw [Int.tmod_eq_emod_of_nonneg (by omega)]; omega
 have hi14 : i < 14 := by omega
 have hj6 : j < 6 := by omega
 have HG14 := Hd (w14_get i hi14)
 have HG6 := Hd (w6_get i j hj6)
 have HF := Hd (fun w' (h : ErrAt w') => func_any w' (Px.wtext i j) (by have := Px.wtext_len i j; omega) h)
 have HR := Hd (fun w' => rfunc_any w' (Px.wtext i j) (by have := Px.wtext_len i j; omega))
 have HERR := Hd (Px.word_err i j hi14 hj6)
 have hxs : (strO (Px.wname i)).size ≤ 6 := by rw [strO_len]; exact Px.wname_len i
 obtain ⟨x, hx⟩ : ∃ x, x = strO (Px.wname i) := ⟨_, rfl⟩
 obtain ⟨s, hs⟩ : ∃ x, x = strO (Px.wtext i j) := ⟨_, rfl⟩
 rw [← hx] at HG14 HG6 hxs
 rw [← hs] at HG6 HF HR
 obtain ⟨G, hG⟩ : ∃ G, G = Px.funcT (Px.wtext i j) := ⟨_, rfl⟩
 rw [← hG] at HF HR HERR
 clear hx hs hG hi hj hb hc he
 go_enter Tryz.func7, Tryz.ntmps7
 go_wp2_with fail
 refine (HK0.out).mono ?_
 rintro e w1 ⟨rfl, hk⟩
 have HK := Hd hk
 clear hk
 have hc14 : (w1.alloc (.cells w14 9)).cell? ⟨w1.heap.size, i, none⟩ = some (.string x) := (row_cell (heap_alloc_new w1 _) i).trans HG14.out
 unfold w14 at hc14
 have hc6 : ((w1.alloc (.cells w14 9)).alloc (.cells (w6 x) 9)).cell? ⟨w1.heap.size + 1, j, none⟩ = some (.string s) := by
  have h := (row_cell (heap_alloc_new (w1.alloc (.cells w14 9)) (.cells (w6 x) 9)) j).trans HG6.out
  simpa using h
 unfold w14 w6 at hc6
 go_wp2_with fail
 refine (HF.out _ (HE.out.keep ((HK.out.alloc _).alloc _))).mono ?_
 rintro e w2 ⟨v, rfl, hk2, hv⟩
 obtain ⟨x1, A1, n1, c1, A2, n2, c2, A3, n3, c3, rfl⟩ := got_form_F hv
 have HB := Hd (show (w2.alloc (.cells #[.string x1, .slice A1 n1 c1, .slice A2 n2 c2, .slice A3 n3 c3] 26)).heap[w2.heap.size]? = some (.cells #[.string x1, .slice A1 n1 c1, .slice A2 n2 c2, .slice A3 n3 c3] 26 (0, 0)) from heap_alloc_new w2 _)
 have HV := Hd (val_keep hv ((Keeps.refl [] w2).alloc (.cells #[.string x1, .slice A1 n1 c1, .slice A2 n2 c2, .slice A3 n3 c3] 26)))
 have HK := Hd ((((HK.out.alloc _).alloc _).trans hk2 (fun _ h _ => h)).alloc (.cells #[.string x1, .slice A1 n1 c1, .slice A2 n2 c2, .slice A3 n3 c3] 26))
 clear hk2 hv hc14 hc6
 go_wp2_with fail
 generalize hX : w2.heap.size = X at HB ⊢
 generalize hW : w2.alloc (.cells #[.string x1, .slice A1 n1 c1, .slice A2 n2 c2, .slice A3 n3 c3] 26) = W at HB HV HK ⊢
 clear hX hW
 refine (HR.out W).mono ?_
 rintro e w3 ⟨v, rfl, hk3, hv⟩
 obtain ⟨y1, B1, m1, d1, B2, m2, d2, B3, m3, d3, rfl⟩ := got_form_F hv
 have hka := (Keeps.refl [] w3).alloc (.cells #[.string y1, .slice B1 m1 d1, .slice B2 m2 d2, .slice B3 m3 d3] 26)
 have hkb := hk3.trans hka (fun _ h _ => h)
 have HV2 := Hd (val_keep hv hka)
 have HB := Hd (block_keep HB.out hkb (by simp))
 have HV := Hd (val_keep HV.out hkb)
 have HK := zV HK hkb
 have a0 := row_cell HB.out 0
 have a1 := row_cell HB.out 1
 have a2 := row_cell HB.out 2
 have a3 := row_cell HB.out 3
 simp only [List.getElem?_toArray, List.getElem?_cons_zero, List.getElem?_cons_succ] at a0 a1 a2 a3
 obtain ⟨ge, hge⟩ : ∃ x, x = G.err := ⟨_, rfl⟩
 rw [← hge] at HERR ⊢
 obtain ⟨gp, hgp⟩ : ∃ x, x = G.pos := ⟨_, rfl⟩
 rw [← hgp]
 have e1 : ((ge : Int) != (ge : Int)) = false := by simp
 have e2 : ((gp : Int) != (gp : Int)) = false := by simp
 clear hk3 hv hka hkb hge hgp
 go_wp2_with fail
 refine (hfunc_any _ G.val 0 0 _ _ HV.out HV2.out).mono ?_
 rintro e w4 ⟨rfl, hk⟩
 have HK := zV HK hk
 clear hk a0 a1 a2 a3 e1 e2
 have herr := HERR.out
 by_cases h11 : 11 ≤ i
 ·
  have hge : ge = 0 := herr.2 (.inl h11)
  have g1 : decide ((11 : Int) ≤ (i : Int)) = true := by simp; omega
  have g2 : ((ge : Int) == 0) = true := by simp; omega
  clear herr h11 hge
  go_wp2_with fail
  go_ret
  exact ⟨rfl, HK.out⟩
 ·
  by_cases h8 : i = 8
  ·
   by_cases h3 : j = 3
   ·
    have hge : ge = 0 := herr.2 (.inr ⟨h8, h3⟩)
    have g1 : decide ((11 : Int) ≤ (i : Int)) = false := by simp; omega
    have g2 : ((ge : Int) == 0) = true := by simp; omega
    have g3 : ((i : Int) == 8) = true := by simp; omega
    have g4 : ((j : Int) == 3) = true := by simp; omega
    clear herr h11 h8 h3 hge
    go_wp2_with fail
    go_ret
    exact ⟨rfl, HK.out⟩
   ·
    have hge : ge ≠ 0 := fun h => by have := herr.1 h; omega
    have g1 : decide ((11 : Int) ≤ (i : Int)) = false := by simp; omega
    have g2 : ((ge : Int) == 0) = false := by simp; omega
    have g3 : ((i : Int) == 8) = true := by simp; omega
    have g4 : ((j : Int) == 3) = false := by simp; omega
    clear herr h11 h8 h3 hge
    go_wp2_with fail
    go_ret
    exact ⟨rfl, HK.out⟩
  ·
   have hge : ge ≠ 0 := fun h => by have := herr.1 h; omega
   have g1 : decide ((11 : Int) ≤ (i : Int)) = false := by simp; omega
   have g2 : ((ge : Int) == 0) = false := by simp; omega
   have g3 : ((i : Int) == 8) = false := by simp; omega
   clear herr h11 h8 hge
   go_wp2_with fail
   go_ret
   exact ⟨rfl, HK.out⟩
theorem u8_natW {n : Int} (wf : (Lit.int .u8 n).wf = true) : ∃ m : Nat, n = (m : Int) ∧ m < 256 := by
 have hb : 0 ≤ n ∧ n ≤ 255 := by
  simpa [Lit.wf, IntKind.min, IntKind.max, IntKind.bits, IntKind.signed] using wf
 exact ⟨n.toNat, by omega, by omega⟩
theorem pwords_any (w : World) (he : ErrAt w) (n0 : Int) (wf0 : (Lit.int .u8 n0).wf = true) (n1 : Int) (wf1 : (Lit.int .u8 n1).wf = true) :
 Calls Tryz.prog 7 #[.int .u8 n0, .int .u8 n1] w (Yes w) := by
 obtain ⟨b, rfl, hb⟩ := u8_natW wf0
 obtain ⟨c, rfl, hc⟩ := u8_natW wf1
 exact pwords_nat w he b c hb hc
end Go.Proofs.YtbikifibfaaggaaGreatDoor
