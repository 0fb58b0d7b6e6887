import Derived.Test.YtbikifibfaaggaaGreatDoorVMO
import Derived.Deep.QuietTactic
import Derived.BigQuiet
import Derived.Laws.StructEq
namespace Go.Proofs.YtbikifibfaaggaaGreatDoor
section
set_option maxHeartbeats 4000000
set_option maxRecDepth 100000
open Go.RowKit Go.Shelf
open Lx (Tok Tx)
open Px (Ex Cn)
open Reg (Is Fact)
attribute [local go_sem] Reg.wantedV Reg.gives_value Reg.gives_skip Reg.gives_enter
theorem hexpr_nil (w : World) : Calls Tryz.prog 121 #[.pointer none, .pointer none] w (Yes w) := by
 go_enter Tryz.func121, Tryz.ntmps121
 go_wp2
 go_ret
 exact ⟨rfl, Keeps.refl _ _⟩
theorem hcond_nil (w : World) : Calls Tryz.prog 122 #[.pointer none, .pointer none] w (Yes w) := by
 go_enter Tryz.func122, Tryz.ntmps122
 go_wp2
 go_ret
 exact ⟨rfl, Keeps.refl _ _⟩
theorem hexpr_step (w : World) (x y : Nat) (k m : Int) (s : ByteArray) (pa pa' pc pc' : Option Addr) (hx : w.heap[x]? = some (.cells #[.int .i64 k, .int .i64 m, .string s, .pointer pa, .pointer pc] 74 (0, 0))) (hy : w.heap[y]? = some (.cells #[.int .i64 k, .int .i64 m, .string s, .pointer pa', .pointer pc'] 74 (0, 0)))
 (hpa : ∀ w', Keeps [] w w' → Calls Tryz.prog 121 #[.pointer pa, .pointer pa'] w' (Yes w'))
 (hpc : ∀ w', Keeps [] w w' → Calls Tryz.prog 121 #[.pointer pc, .pointer pc'] w' (Yes w'))
 : Calls Tryz.prog 121 #[.pointer (some ⟨x, 0, none⟩), .pointer (some ⟨y, 0, none⟩)] w (Yes w) := by
 have a0 := row_cell hx 0
 have b0 := row_cell hy 0
 have a1 := row_cell hx 1
 have b1 := row_cell hy 1
 have a2 := row_cell hx 2
 have b2 := row_cell hy 2
 have a3 := row_cell hx 3
 have b3 := row_cell hy 3
 have a4 := row_cell hx 4
 have b4 := row_cell hy 4
 simp only [List.getElem?_toArray, List.getElem?_cons_zero, List.getElem?_cons_succ] at a0 b0 a1 b1 a2 b2 a3 b3 a4 b4
 have A0 := Hd a0
 have B0 := Hd b0
 have A1 := Hd a1
 have B1 := Hd b1
 have A2 := Hd a2
 have B2 := Hd b2
 have A3 := Hd a3
 have B3 := Hd b3
 have A4 := Hd a4
 have B4 := Hd b4
 have Hpa := Hd hpa
 have Hpc := Hd hpc
 clear hx hy hpa hpc a0 b0 a1 b1 a2 b2 a3 b3 a4 b4
 go_enter Tryz.func121, Tryz.ntmps121
 go_wp2
 refine Reg.wp_region_state (A := ?A) (fun _ w' => Keeps [] w w') (fun _ _ => True)
  (Is (.pointer (some ⟨x, 0, none⟩)) :: Is (.pointer (some ⟨x, 0, none⟩)) :: Is (.pointer (some ⟨x, 0, none⟩)) :: Is (.int .i64 k) :: Is (.pointer (some ⟨y, 0, none⟩)) :: Is (.pointer (some ⟨y, 0, none⟩)) :: Is (.pointer (some ⟨y, 0, none⟩)) :: Is (.int .i64 k) :: Is (.bool true) :: Is (.bool true) :: Is (.pointer (some ⟨x, 0, none⟩)) :: Is (.pointer (some ⟨x, 0, none⟩)) :: Is (.pointer (some ⟨x, 1, none⟩)) :: Is (.int .i64 m) :: Is (.pointer (some ⟨y, 0, none⟩)) :: Is (.pointer (some ⟨y, 0, none⟩)) :: Is (.pointer (some ⟨y, 1, none⟩)) :: Is (.int .i64 m) :: Is (.bool true) :: Is (.bool true) :: Is (.bool true) :: Is (.pointer (some ⟨x, 0, none⟩)) :: Is (.pointer (some ⟨x, 0, none⟩)) :: Is (.pointer (some ⟨x, 2, none⟩)) :: Is (.string s) :: Is (.pointer (some ⟨y, 0, none⟩)) :: Is (.pointer (some ⟨y, 0, none⟩)) :: Is (.pointer (some ⟨y, 2, none⟩)) :: Is (.string s) :: Is (.bool true) :: Is (.bool true) :: Is (.bool true) :: Is (.pointer (some ⟨x, 0, none⟩)) :: Is (.pointer (some ⟨x, 0, none⟩)) :: Is (.pointer (some ⟨x, 3, none⟩)) :: Is (.pointer pa) :: Is (.pointer (some ⟨y, 0, none⟩)) :: Is (.pointer (some ⟨y, 0, none⟩)) :: Is (.pointer (some ⟨y, 3, none⟩)) :: Is (.pointer pa') :: Is (.bool true) :: Is (.bool true) :: Is (.bool true) :: Is (.pointer (some ⟨x, 0, none⟩)) :: Is (.pointer (some ⟨x, 0, none⟩)) :: Is (.pointer (some ⟨x, 4, none⟩)) :: Is (.pointer pc) :: Is (.pointer (some ⟨y, 0, none⟩)) :: Is (.pointer (some ⟨y, 0, none⟩)) :: Is (.pointer (some ⟨y, 4, none⟩)) :: Is (.pointer pc') :: Is (.bool true) :: Is (.bool true) :: Is (.bool true) :: [])
  (by kernel_rfl) (by kernel_rfl) rfl ?hrexprA ?hrexprC ?hrexpro ?hrexprlast ?hrexprend
 case hrexprA => intro vs; simp only [Reg.fill, if_true, Nat.zero_add, Nat.reduceAdd, Act.put, List.setIfInBounds_toArray, List.set_cons_succ, List.set_cons_zero]; exact rfl
 case hrexprC => exact (Keeps.refl _ _).drew
 case hrexprlast => repeat (first | exact trivial | refine ⟨fun _ _ _ h _ => h, ?_⟩)
 case hrexpro =>
  repeat' apply And.intro
  all_goals
   first
    | exact trivial
    | (
     intro Ls vs w' hC hLs hd K hK
     try simp only [Reg.Deps, Reg.at_, List.getD_cons_zero, List.getD_cons_succ, Region.binds, true_implies, Is, and_true] at hd
     have a0 := hC.cell_some A0.out (by simp)
     have b0 := hC.cell_some B0.out (by simp)
     have a1 := hC.cell_some A1.out (by simp)
     have b1 := hC.cell_some B1.out (by simp)
     have a2 := hC.cell_some A2.out (by simp)
     have b2 := hC.cell_some B2.out (by simp)
     have a3 := hC.cell_some A3.out (by simp)
     have b3 := hC.cell_some B3.out (by simp)
     have a4 := hC.cell_some A4.out (by simp)
     have b4 := hC.cell_some B4.out (by simp)
     go_simp
     first
      | exact hK _ _ hC trivial rfl
      | skip)
  ·
   refine (Hpa.out _ hC).mono ?_
   rintro e w2 ⟨rfl, hk⟩
   exact ⟨_, rfl, hK _ _ (hC.trans hk (fun _ h _ => h)) trivial rfl⟩
  ·
   refine (Hpc.out _ hC).mono ?_
   rintro e w2 ⟨rfl, hk⟩
   exact ⟨_, rfl, hK _ _ (hC.trans hk (fun _ h _ => h)) trivial rfl⟩
 case hrexprend =>
  intro vs w2 hC hall
  simp only [Reg.All, Is, and_true, Nat.zero_add, Nat.reduceAdd] at hall
  have eL := hall.2.2.2.2.2.2.2.2.2.2.2.2.2.2.2.2.2.2.2.2.2.2.2.2.2.2.2.2.2.2.2.2.2.2.2.2.2.2.2.2.2.2.2.2.2.2.2.2.2.2.2.2.2
  rw [eL]
  clear hall eL
  go_wp2
  go_ret
  exact ⟨rfl, hC⟩
theorem hcond_step (w : World) (x y : Nat) (k : Int) (s : ByteArray) (pa pa' pc pc' qa qa' qc qc' : Option Addr) (hx : w.heap[x]? = some (.cells #[.int .i64 k, .pointer pa, .pointer pc, .pointer qa, .pointer qc, .string s] 105 (0, 0))) (hy : w.heap[y]? = some (.cells #[.int .i64 k, .pointer pa', .pointer pc', .pointer qa', .pointer qc', .string s] 105 (0, 0)))
 (hpa : ∀ w', Keeps [] w w' → Calls Tryz.prog 121 #[.pointer pa, .pointer pa'] w' (Yes w'))
 (hpc : ∀ w', Keeps [] w w' → Calls Tryz.prog 121 #[.pointer pc, .pointer pc'] w' (Yes w'))
 (hqa : ∀ w', Keeps [] w w' → Calls Tryz.prog 122 #[.pointer qa, .pointer qa'] w' (Yes w'))
 (hqc : ∀ w', Keeps [] w w' → Calls Tryz.prog 122 #[.pointer qc, .pointer qc'] w' (Yes w'))
 : Calls Tryz.prog 122 #[.pointer (some ⟨x, 0, none⟩), .pointer (some ⟨y, 0, none⟩)] w (Yes w) := by
 have a0 := row_cell hx 0
 have b0 := row_cell hy 0
 have a1 := row_cell hx 1
 have b1 := row_cell hy 1
 have a2 := row_cell hx 2
 have b2 := row_cell hy 2
 have a3 := row_cell hx 3
 have b3 := row_cell hy 3
 have a4 := row_cell hx 4
 have b4 := row_cell hy 4
 have a5 := row_cell hx 5
 have b5 := row_cell hy 5
 simp only [List.getElem?_toArray, List.getElem?_cons_zero, List.getElem?_cons_succ] at a0 b0 a1 b1 a2 b2 a3 b3 a4 b4 a5 b5
 have A0 := Hd a0
 have B0 := Hd b0
 have A1 := Hd a1
 have B1 := Hd b1
 have A2 := Hd a2
 have B2 := Hd b2
 have A3 := Hd a3
 have B3 := Hd b3
 have A4 := Hd a4
 have B4 := Hd b4
 have A5 := Hd a5
 have B5 := Hd b5
 have Hpa := Hd hpa
 have Hpc := Hd hpc
 have Hqa := Hd hqa
 have Hqc := Hd hqc
 clear hx hy hpa hpc hqa hqc a0 b0 a1 b1 a2 b2 a3 b3 a4 b4 a5 b5
 go_enter Tryz.func122, Tryz.ntmps122
 go_wp2
 simp only [List.append_eq, List.cons_append, List.nil_append]
 refine Reg.wp_region_state (A := ?A) (fun _ w' => Keeps [] w w') (fun _ _ => True)
  (Is (.pointer (some ⟨x, 0, none⟩)) :: Is (.pointer (some ⟨x, 0, none⟩)) :: Is (.pointer (some ⟨x, 0, none⟩)) :: Is (.int .i64 k) :: Is (.pointer (some ⟨y, 0, none⟩)) :: Is (.pointer (some ⟨y, 0, none⟩)) :: Is (.pointer (some ⟨y, 0, none⟩)) :: Is (.int .i64 k) :: Is (.bool true) :: Is (.bool true) :: Is (.pointer (some ⟨x, 0, none⟩)) :: Is (.pointer (some ⟨x, 0, none⟩)) :: Is (.pointer (some ⟨x, 5, none⟩)) :: Is (.string s) :: Is (.pointer (some ⟨y, 0, none⟩)) :: Is (.pointer (some ⟨y, 0, none⟩)) :: Is (.pointer (some ⟨y, 5, none⟩)) :: Is (.string s) :: Is (.bool true) :: Is (.bool true) :: Is (.bool true) :: Is (.pointer (some ⟨x, 0, none⟩)) :: Is (.pointer (some ⟨x, 0, none⟩)) :: Is (.pointer (some ⟨x, 1, none⟩)) :: Is (.pointer pa) :: Is (.pointer (some ⟨y, 0, none⟩)) :: Is (.pointer (some ⟨y, 0, none⟩)) :: Is (.pointer (some ⟨y, 1, none⟩)) :: Is (.pointer pa') :: Is (.bool true) :: Is (.bool true) :: Is (.bool true) :: Is (.pointer (some ⟨x, 0, none⟩)) :: Is (.pointer (some ⟨x, 0, none⟩)) :: Is (.pointer (some ⟨x, 2, none⟩)) :: Is (.pointer pc) :: Is (.pointer (some ⟨y, 0, none⟩)) :: Is (.pointer (some ⟨y, 0, none⟩)) :: Is (.pointer (some ⟨y, 2, none⟩)) :: Is (.pointer pc') :: Is (.bool true) :: Is (.bool true) :: Is (.bool true) :: Is (.pointer (some ⟨x, 0, none⟩)) :: Is (.pointer (some ⟨x, 0, none⟩)) :: Is (.pointer (some ⟨x, 3, none⟩)) :: Is (.pointer qa) :: Is (.pointer (some ⟨y, 0, none⟩)) :: Is (.pointer (some ⟨y, 0, none⟩)) :: Is (.pointer (some ⟨y, 3, none⟩)) :: Is (.pointer qa') :: Is (.bool true) :: Is (.bool true) :: Is (.bool true) :: Is (.pointer (some ⟨x, 0, none⟩)) :: Is (.pointer (some ⟨x, 0, none⟩)) :: Is (.pointer (some ⟨x, 4, none⟩)) :: Is (.pointer qc) :: Is (.pointer (some ⟨y, 0, none⟩)) :: Is (.pointer (some ⟨y, 0, none⟩)) :: Is (.pointer (some ⟨y, 4, none⟩)) :: Is (.pointer qc') :: Is (.bool true) :: Is (.bool true) :: Is (.bool true) :: [])
  (by kernel_rfl) (by kernel_rfl) rfl ?hrcondA ?hrcondC ?hrcondo ?hrcondlast ?hrcondend
 case hrcondA => intro vs; simp only [Reg.fill, if_true, Nat.zero_add, Nat.reduceAdd, Act.put, List.setIfInBounds_toArray, List.set_cons_succ, List.set_cons_zero]; exact rfl
 case hrcondC => exact (Keeps.refl _ _).drew
 case hrcondlast => repeat (first | exact trivial | refine ⟨fun _ _ _ h _ => h, ?_⟩)
 case hrcondo =>
  repeat' apply And.intro
  all_goals
   first
    | exact trivial
    | (
     intro Ls vs w' hC hLs hd K hK
     try simp only [Reg.Deps, Reg.at_, List.getD_cons_zero, List.getD_cons_succ, Region.binds, true_implies, Is, and_true] at hd
     have a0 := hC.cell_some A0.out (by simp)
     have b0 := hC.cell_some B0.out (by simp)
     have a1 := hC.cell_some A1.out (by simp)
     have b1 := hC.cell_some B1.out (by simp)
     have a2 := hC.cell_some A2.out (by simp)
     have b2 := hC.cell_some B2.out (by simp)
     have a3 := hC.cell_some A3.out (by simp)
     have b3 := hC.cell_some B3.out (by simp)
     have a4 := hC.cell_some A4.out (by simp)
     have b4 := hC.cell_some B4.out (by simp)
     have a5 := hC.cell_some A5.out (by simp)
     have b5 := hC.cell_some B5.out (by simp)
     go_simp
     first
      | exact hK _ _ hC trivial rfl
      | skip)
  ·
   refine (Hpa.out _ hC).mono ?_
   rintro e w2 ⟨rfl, hk⟩
   exact ⟨_, rfl, hK _ _ (hC.trans hk (fun _ h _ => h)) trivial rfl⟩
  ·
   refine (Hpc.out _ hC).mono ?_
   rintro e w2 ⟨rfl, hk⟩
   exact ⟨_, rfl, hK _ _ (hC.trans hk (fun _ h _ => h)) trivial rfl⟩
  ·
   refine (Hqa.out _ hC).mono ?_
   rintro e w2 ⟨rfl, hk⟩
   exact ⟨_, rfl, hK _ _ (hC.trans hk (fun _ h _ => h)) trivial rfl⟩
  ·
   refine (Hqc.out _ hC).mono ?_
   rintro e w2 ⟨rfl, hk⟩
   exact ⟨_, rfl, hK _ _ (hC.trans hk (fun _ h _ => h)) trivial rfl⟩
 case hrcondend =>
  intro vs w2 hC hall
  simp only [Reg.All, Is, and_true, Nat.zero_add, Nat.reduceAdd] at hall
  have eL := hall.2.2.2.2.2.2.2.2.2.2.2.2.2.2.2.2.2.2.2.2.2.2.2.2.2.2.2.2.2.2.2.2.2.2.2.2.2.2.2.2.2.2.2.2.2.2.2.2.2.2.2.2.2.2.2.2.2.2.2.2.2.2.2.2
  rw [eL]
  clear hall eL
  go_wp2
  go_ret
  exact ⟨rfl, hC⟩
end
section
set_option maxHeartbeats 4000000
set_option maxRecDepth 100000
open Go.RowKit Go.Shelf
open Lx (Tok Tx)
open Px (Ex Cn Sm Vr)
open Reg (Is Fact)
attribute [local go_sem] Reg.wantedV Reg.gives_value Reg.gives_skip Reg.gives_enter
theorem hexpr_any : ∀ (e : Ex) (w : World) (b c : Nat) (v u : Value), ExAt w b e v → ExAt w c e u → Calls Tryz.prog 121 #[v, u] w (Yes w)
 | .num m, w, b, c, v, u, ⟨x, h1, _, h3⟩, ⟨y, k1, _, k3⟩ => by
  subst h1 k1
  exact hexpr_step w x y _ _ _ none none none none h3 k3 (fun w' _ => hexpr_nil w') (fun w' _ => hexpr_nil w')
 | .var s, w, b, c, v, u, ⟨x, h1, _, h3⟩, ⟨y, k1, _, k3⟩ => by
  subst h1 k1
  exact hexpr_step w x y _ _ _ none none none none h3 k3 (fun w' _ => hexpr_nil w') (fun w' _ => hexpr_nil w')
 | .neg a, w, b, c, v, u, ⟨x, va, h1, _, h3, h4⟩, ⟨y, ua, k1, _, k3, k4⟩ => by
  subst h1 k1
  obtain ⟨xa, rfl⟩ := h4.ptr
  obtain ⟨ya, rfl⟩ := k4.ptr
  exact hexpr_step w x y _ _ _ _ _ none none h3 k3 (fun w' hk => hexpr_any a w' b c _ _ (h4.keep hk (by simp)) (k4.keep hk (by simp))) (fun w' _ => hexpr_nil w')
 | .bin k a d, w, b, c, v, u, ⟨x, va, vc, h1, _, h3, h4, h5⟩, ⟨y, ua, uc, k1, _, k3, k4, k5⟩ => by
  subst h1 k1
  obtain ⟨xa, rfl⟩ := h4.ptr
  obtain ⟨ya, rfl⟩ := k4.ptr
  obtain ⟨xc, rfl⟩ := h5.ptr
  obtain ⟨yc, rfl⟩ := k5.ptr
  exact hexpr_step w x y _ _ _ _ _ _ _ h3 k3 (fun w' hk => hexpr_any a w' b c _ _ (h4.keep hk (by simp)) (k4.keep hk (by simp))) (fun w' hk => hexpr_any d w' b c _ _ (h5.keep hk (by simp)) (k5.keep hk (by simp)))
theorem hcond_any : ∀ (e : Cn) (w : World) (b c : Nat) (v u : Value), CnAt w b e v → CnAt w c e u → Calls Tryz.prog 122 #[v, u] w (Yes w)
 | .cmp k a d, w, b, c, v, u, ⟨x, va, vc, h1, _, h3, h4, h5⟩, ⟨y, ua, uc, k1, _, k3, k4, k5⟩ => by
  subst h1 k1
  obtain ⟨xa, rfl⟩ := h4.ptr
  obtain ⟨ya, rfl⟩ := k4.ptr
  obtain ⟨xc, rfl⟩ := h5.ptr
  obtain ⟨yc, rfl⟩ := k5.ptr
  exact hcond_step w x y _ _ _ _ _ _ none none none none h3 k3 (fun w' hk => hexpr_any a w' b c _ _ (h4.keep hk (by simp)) (k4.keep hk (by simp))) (fun w' hk => hexpr_any d w' b c _ _ (h5.keep hk (by simp)) (k5.keep hk (by simp))) (fun w' _ => hcond_nil w') (fun w' _ => hcond_nil w')
 | .two k a d, w, b, c, v, u, ⟨x, va, vc, h1, _, h3, h4, h5⟩, ⟨y, ua, uc, k1, _, k3, k4, k5⟩ => by
  subst h1 k1
  obtain ⟨xa, rfl⟩ := h4.ptr
  obtain ⟨ya, rfl⟩ := k4.ptr
  obtain ⟨xc, rfl⟩ := h5.ptr
  obtain ⟨yc, rfl⟩ := k5.ptr
  exact hcond_step w x y _ _ none none none none _ _ _ _ h3 k3 (fun w' _ => hexpr_nil w') (fun w' _ => hexpr_nil w') (fun w' hk => hcond_any a w' b c _ _ (h4.keep hk (by simp)) (k4.keep hk (by simp))) (fun w' hk => hcond_any d w' b c _ _ (h5.keep hk (by simp)) (k5.keep hk (by simp)))
 | .not a, w, b, c, v, u, ⟨x, va, h1, _, h3, h4⟩, ⟨y, ua, k1, _, k3, k4⟩ => by
  subst h1 k1
  obtain ⟨xa, rfl⟩ := h4.ptr
  obtain ⟨ya, rfl⟩ := k4.ptr
  exact hcond_step w x y _ _ none none none none _ _ none none h3 k3 (fun w' _ => hexpr_nil w') (fun w' _ => hexpr_nil w') (fun w' hk => hcond_any a w' b c _ _ (h4.keep hk (by simp)) (k4.keep hk (by simp))) (fun w' _ => hcond_nil w')
 | .null s, w, b, c, v, u, ⟨x, h1, _, h3⟩, ⟨y, k1, _, k3⟩ => by
  subst h1 k1
  exact hcond_step w x y _ _ none none none none none none none none h3 k3 (fun w' _ => hexpr_nil w') (fun w' _ => hexpr_nil w') (fun w' _ => hcond_nil w') (fun w' _ => hcond_nil w')
theorem hoex_any {e : Option Ex} {w : World} {b c : Nat} {v u : Value} (h : OEx w b e v) (k : OEx w c e u) : Calls Tryz.prog 121 #[v, u] w (Yes w) := by
 cases e with
 | none => obtain rfl : v = .pointer none := h; obtain rfl : u = .pointer none := k; exact hexpr_nil w
 | some e => exact hexpr_any e w b c v u h k
theorem hocn_any {e : Option Cn} {w : World} {b c : Nat} {v u : Value} (h : OCn w b e v) (k : OCn w c e u) : Calls Tryz.prog 122 #[v, u] w (Yes w) := by
 cases e with
 | none => obtain rfl : v = .pointer none := h; obtain rfl : u = .pointer none := k; exact hcond_nil w
 | some e => exact hcond_any e w b c v u h k
theorem hstmt_step (w : World) (kd a : Int) (x y : ByteArray) (qe qe' qf qf' qc qc' Aa Aa' At At' Al Al' : Option Addr) (n ca ca' nt ct nt' ct' nl cl nl' cl' : Nat) (hn : n ≤ 9223372036854775807)
 (hargs : ∀ k, k < n → ∃ g g' p p', Aa = some ⟨g, 0, none⟩ ∧ Aa' = some ⟨g', 0, none⟩ ∧ w.cell? ⟨g, k * 3, none⟩ = some (.bool false) ∧ w.cell? ⟨g, k * 3 + 1, none⟩ = some (.string .empty) ∧ w.cell? ⟨g, k * 3 + 2, none⟩ = some (.pointer p) ∧ w.cell? ⟨g', k * 3, none⟩ = some (.bool false) ∧ w.cell? ⟨g', k * 3 + 1, none⟩ = some (.string .empty) ∧ w.cell? ⟨g', k * 3 + 2, none⟩ = some (.pointer p') ∧ ∀ w', Keeps [] w w' → Calls Tryz.prog 121 #[.pointer p, .pointer p'] w' (Yes w'))
 (hE : ∀ w', Keeps [] w w' → Calls Tryz.prog 121 #[.pointer qe, .pointer qe'] w' (Yes w'))
 (hF : ∀ w', Keeps [] w w' → Calls Tryz.prog 121 #[.pointer qf, .pointer qf'] w' (Yes w'))
 (hC : ∀ w', Keeps [] w w' → Calls Tryz.prog 122 #[.pointer qc, .pointer qc'] w' (Yes w'))
 (hT : ∀ w', Keeps [] w w' → Calls Tryz.prog 48 #[.slice At nt ct, .slice At' nt' ct'] w' (Yes w'))
 (hL : ∀ w', Keeps [] w w' → Calls Tryz.prog 48 #[.slice Al nl cl, .slice Al' nl' cl'] w' (Yes w')) :
 Calls Tryz.prog 90 #[.agg #[.int .i64 kd, .string x, .string y, .pointer qe, .pointer qf, .pointer qc, .slice Aa n ca, .slice At nt ct, .slice Al nl cl, .int .i64 a], .agg #[.int .i64 kd, .string x, .string y, .pointer qe', .pointer qf', .pointer qc', .slice Aa' n ca', .slice At' nt' ct', .slice Al' nl' cl', .int .i64 a]] w (Yes w) := by
 have HARGS := Hd hargs
 have HE := Hd hE
 have HF := Hd hF
 have HC := Hd hC
 have HT := Hd hT
 have HL := Hd hL
 clear hE hF hC hT hL
 have e1 : (kd != kd) = false := by simp
 have e2 : (a != a) = false := by simp
 have e3 : (x.toList != x.toList) = false := by simp
 have e4 : (y.toList != y.toList) = false := by simp
 clear hargs
 have HB0 := Hd (show ((w.alloc (.cells #[.int .i64 kd, .string x, .string y, .pointer qe, .pointer qf, .pointer qc, .slice Aa n ca, .slice At nt ct, .slice Al nl cl, .int .i64 a] 60)).alloc (.cells #[.int .i64 kd, .string x, .string y, .pointer qe', .pointer qf', .pointer qc', .slice Aa' n ca', .slice At' nt' ct', .slice Al' nl' cl', .int .i64 a] 60)).heap[w.heap.size]? = some (.cells #[.int .i64 kd, .string x, .string y, .pointer qe, .pointer qf, .pointer qc, .slice Aa n ca, .slice At nt ct, .slice Al nl cl, .int .i64 a] 60 (0, 0)) from block_keep (heap_alloc_new w _) ((Keeps.refl [] _).alloc _) (by simp))
 have HB1 := Hd (show ((w.alloc (.cells #[.int .i64 kd, .string x, .string y, .pointer qe, .pointer qf, .pointer qc, .slice Aa n ca, .slice At nt ct, .slice Al nl cl, .int .i64 a] 60)).alloc (.cells #[.int .i64 kd, .string x, .string y, .pointer qe', .pointer qf', .pointer qc', .slice Aa' n ca', .slice At' nt' ct', .slice Al' nl' cl', .int .i64 a] 60)).heap[w.heap.size + 1]? = some (.cells #[.int .i64 kd, .string x, .string y, .pointer qe', .pointer qf', .pointer qc', .slice Aa' n ca', .slice At' nt' ct', .slice Al' nl' cl', .int .i64 a] 60 (0, 0)) from by have := heap_alloc_new (w.alloc (.cells #[.int .i64 kd, .string x, .string y, .pointer qe, .pointer qf, .pointer qc, .slice Aa n ca, .slice At nt ct, .slice Al nl cl, .int .i64 a] 60)) (.cells #[.int .i64 kd, .string x, .string y, .pointer qe', .pointer qf', .pointer qc', .slice Aa' n ca', .slice At' nt' ct', .slice Al' nl' cl', .int .i64 a] 60); simpa using this)
 have HKK := Hd (show Keeps [] w ((w.alloc (.cells #[.int .i64 kd, .string x, .string y, .pointer qe, .pointer qf, .pointer qc, .slice Aa n ca, .slice At nt ct, .slice Al nl cl, .int .i64 a] 60)).alloc (.cells #[.int .i64 kd, .string x, .string y, .pointer qe', .pointer qf', .pointer qc', .slice Aa' n ca', .slice At' nt' ct', .slice Al' nl' cl', .int .i64 a] 60)) from ((Keeps.refl [] w).alloc _).alloc _)
 have hxx : ∃ X0, X0 = w.heap.size := ⟨_, rfl⟩
 go_enter Tryz.func90, Tryz.ntmps90
 go_wp2_with fail
 generalize hX1 : w.heap.size + 1 = X1 at HB1 ⊢
 generalize hX0 : w.heap.size = X0 at HB0 HB1 ⊢
 generalize hW : (w.alloc (.cells #[.int .i64 kd, .string x, .string y, .pointer qe, .pointer qf, .pointer qc, .slice Aa n ca, .slice At nt ct, .slice Al nl cl, .int .i64 a] 60)).alloc (.cells #[.int .i64 kd, .string x, .string y, .pointer qe', .pointer qf', .pointer qc', .slice Aa' n ca', .slice At' nt' ct', .slice Al' nl' cl', .int .i64 a] 60) = W at HB0 HB1 HKK ⊢
 clear hX1 hX0 hW hxx
 go_loopw [5] (fun i wr => ∃ k : Nat, k ≤ n ∧ i = .int .i64 (k : Int) ∧ Keeps [] W wr) (fun i _ => n - (intOf i).toNat)
 case atStart => exact ⟨0, Nat.zero_le _, rfl, Keeps.refl _ _⟩
 case round =>
  obtain ⟨k, hk, rfl, hkp⟩ := hrel
  have HK := zV HKK hkp
  have HC0 := Hd (block_keep HB0.out hkp (by simp))
  have HC1 := Hd (block_keep HB1.out hkp (by simp))
  have c06 := row_cell HC0.out 6
  have c16 := row_cell HC1.out 6
  simp only [List.getElem?_toArray, List.getElem?_cons_zero, List.getElem?_cons_succ] at c06 c16
  have HKP := Hd hkp
  clear hkp
  by_cases hlt : k < n
  ·
   obtain ⟨g, g', p, p', hA, hA', a0, a1, a2, b0, b1, b2, hcall⟩ := HARGS.out k hlt
   subst hA hA'
   have D0 := Hd a0
   have D1 := Hd a1
   have D2 := Hd a2
   have E0 := Hd b0
   have E1 := Hd b1
   have E2 := Hd b2
   have HCALL := Hd hcall
   have hp0 : (0 : Int) ≤ (k : Int) := by omega
   have hl0 : (k : Int) < (n : Int) := by omega
   clear a0 a1 a2 b0 b1 b2 hcall
   go_wp2_with fail
   refine Reg.wp_region_state (A := ?A6) (fun _ w' => Keeps [] wr w') (fun _ _ => True)
    (Is (.pointer (some ⟨X0, 6, none⟩)) :: Is (.slice (some ⟨g, 0, none⟩) n ca) :: Is (.int .i64 (k : Int)) :: Is (.pointer (some ⟨g, k * 3, none⟩)) :: Is (.pointer (some ⟨g, k * 3, none⟩)) :: Is (.bool false) :: Is (.pointer (some ⟨X1, 6, none⟩)) :: Is (.slice (some ⟨g', 0, none⟩) n ca') :: Is (.int .i64 (k : Int)) :: Is (.pointer (some ⟨g', k * 3, none⟩)) :: Is (.pointer (some ⟨g', k * 3, none⟩)) :: Is (.bool false) :: Is (.bool false) :: Is (.bool false) :: Is (.pointer (some ⟨X0, 6, none⟩)) :: Is (.slice (some ⟨g, 0, none⟩) n ca) :: Is (.int .i64 (k : Int)) :: Is (.pointer (some ⟨g, k * 3, none⟩)) :: Is (.pointer (some ⟨g, k * 3 + 1, none⟩)) :: Is (.string .empty) :: Is (.pointer (some ⟨X1, 6, none⟩)) :: Is (.slice (some ⟨g', 0, none⟩) n ca') :: Is (.int .i64 (k : Int)) :: Is (.pointer (some ⟨g', k * 3, none⟩)) :: Is (.pointer (some ⟨g', k * 3 + 1, none⟩)) :: Is (.string .empty) :: Is (.bool false) :: Is (.bool false) :: Is (.bool false) :: Is (.pointer (some ⟨X0, 6, none⟩)) :: Is (.slice (some ⟨g, 0, none⟩) n ca) :: Is (.int .i64 (k : Int)) :: Is (.pointer (some ⟨g, k * 3, none⟩)) :: Is (.pointer (some ⟨g, k * 3 + 2, none⟩)) :: Is (.pointer p) :: Is (.pointer (some ⟨X1, 6, none⟩)) :: Is (.slice (some ⟨g', 0, none⟩) n ca') :: Is (.int .i64 (k : Int)) :: Is (.pointer (some ⟨g', k * 3, none⟩)) :: Is (.pointer (some ⟨g', k * 3 + 2, none⟩)) :: Is (.pointer p') :: Is (.bool true) :: Is (.bool false) :: Is (.bool false) :: [])
    (by kernel_rfl) (by kernel_rfl) rfl ?hrg6A ?hrg6C ?hrg6o ?hrg6last ?hrg6end
   case hrg6A => intro vs; simp only [Reg.fill, if_true, Nat.zero_add, Nat.reduceAdd, Act.put, List.setIfInBounds_toArray, List.set_cons_succ, List.set_cons_zero]; exact rfl
   case hrg6C => exact (Keeps.refl _ _).drew
   case hrg6last => repeat (first | exact trivial | refine ⟨fun _ _ _ h _ => h, ?_⟩)
   case hrg6o =>
    repeat' apply And.intro
    all_goals
     first
      | exact trivial
      | (
       intro Ls vs w' hC hLs hd K hK
       try simp only [Reg.Deps, Reg.at_, List.getD_cons_zero, List.getD_cons_succ, Region.binds, true_implies, Is, and_true] at hd
       have x06 := (row_cell (block_keep HC0.out hC (by simp)) 6)
       have x16 := (row_cell (block_keep HC1.out hC (by simp)) 6)
       simp only [List.getElem?_toArray, List.getElem?_cons_zero, List.getElem?_cons_succ] at x06 x16
       have d0 := (HK.out.trans hC (fun _ h _ => h)).cell_some D0.out (by simp)
       have d1 := (HK.out.trans hC (fun _ h _ => h)).cell_some D1.out (by simp)
       have d2 := (HK.out.trans hC (fun _ h _ => h)).cell_some D2.out (by simp)
       have f0 := (HK.out.trans hC (fun _ h _ => h)).cell_some E0.out (by simp)
       have f1 := (HK.out.trans hC (fun _ h _ => h)).cell_some E1.out (by simp)
       have f2 := (HK.out.trans hC (fun _ h _ => h)).cell_some E2.out (by simp)
       go_simp
       first
        | exact hK _ _ hC trivial rfl
        | skip)
    ·
     refine (HCALL.out _ (HK.out.trans hC (fun _ h _ => h))).mono ?_
     rintro e w2 ⟨rfl, hk⟩
     exact ⟨_, rfl, hK _ _ (hC.trans hk (fun _ h _ => h)) trivial rfl⟩
   case hrg6end =>
    intro vs w2 hC hall
    simp only [Reg.All, Is, and_true, Nat.zero_add, Nat.reduceAdd] at hall
    have eL := hall.2.2.2.2.2.2.2.2.2.2.2.2.2.2.2.2.2.2.2.2.2.2.2.2.2.2.2.2.2.2.2.2.2.2.2.2.2.2.2.2.2.2.2
    rw [eL]
    clear hall eL
    go_wp2
    go_roundw
    case rel => exact ⟨k + 1, by omega, by go_num, HKP.out.trans hC (fun _ h _ => h)⟩
    case measure => simp [intOf]; omega
  ·
   have c03 := row_cell HC0.out 3
   have c13 := row_cell HC1.out 3
   have c04 := row_cell HC0.out 4
   have c14 := row_cell HC1.out 4
   have c05 := row_cell HC0.out 5
   have c15 := row_cell HC1.out 5
   have c07 := row_cell HC0.out 7
   have c17 := row_cell HC1.out 7
   have c08 := row_cell HC0.out 8
   have c18 := row_cell HC1.out 8
   simp only [List.getElem?_toArray, List.getElem?_cons_zero, List.getElem?_cons_succ] at c03 c13 c04 c14 c05 c15 c07 c17 c08 c18
   go_wp2_with fail
   refine (HE.out _ HK.out).mono ?_
   rintro e vHE ⟨rfl, hk⟩
   have HK := zV HK hk
   replace c04 := hk.cell_some c04 (by simp)
   replace c14 := hk.cell_some c14 (by simp)
   replace c05 := hk.cell_some c05 (by simp)
   replace c15 := hk.cell_some c15 (by simp)
   replace c07 := hk.cell_some c07 (by simp)
   replace c17 := hk.cell_some c17 (by simp)
   replace c08 := hk.cell_some c08 (by simp)
   replace c18 := hk.cell_some c18 (by simp)
   clear hk c03 c13
   go_wp2_with fail
   refine (HF.out _ HK.out).mono ?_
   rintro e vHF ⟨rfl, hk⟩
   have HK := zV HK hk
   replace c05 := hk.cell_some c05 (by simp)
   replace c15 := hk.cell_some c15 (by simp)
   replace c07 := hk.cell_some c07 (by simp)
   replace c17 := hk.cell_some c17 (by simp)
   replace c08 := hk.cell_some c08 (by simp)
   replace c18 := hk.cell_some c18 (by simp)
   clear hk c04 c14
   go_wp2_with fail
   refine (HC.out _ HK.out).mono ?_
   rintro e vHC ⟨rfl, hk⟩
   have HK := zV HK hk
   replace c07 := hk.cell_some c07 (by simp)
   replace c17 := hk.cell_some c17 (by simp)
   replace c08 := hk.cell_some c08 (by simp)
   replace c18 := hk.cell_some c18 (by simp)
   clear hk c05 c15
   go_wp2_with fail
   refine (HT.out _ HK.out).mono ?_
   rintro e vHT ⟨rfl, hk⟩
   have HK := zV HK hk
   replace c08 := hk.cell_some c08 (by simp)
   replace c18 := hk.cell_some c18 (by simp)
   clear hk c07 c17
   go_wp2_with fail
   refine (HL.out _ HK.out).mono ?_
   rintro e vHL ⟨rfl, hk⟩
   have HK := zV HK hk
   clear hk c08 c18
   go_wp2_with fail
   go_ret
   exact ⟨rfl, HK.out⟩
end
section
set_option maxHeartbeats 4000000
set_option maxRecDepth 100000
open Go.RowKit Go.Shelf
open Lx (Tok Tx)
open Px (Ex Cn Sm Vr)
open Reg (Is Fact)
attribute [local go_sem] Reg.wantedV Reg.gives_value Reg.gives_skip Reg.gives_enter
def StC (w : World) (g o : Nat) (kd : Int) (x y : ByteArray) (qe qf qc Aa : Option Addr) (na ca : Nat) (At : Option Addr) (nt ct : Nat) (Al : Option Addr) (nl cl : Nat) (a : Int) : Prop :=
 w.cell? ⟨g, o, none⟩ = some (.int .i64 kd) ∧ w.cell? ⟨g, o + 1, none⟩ = some (.string x) ∧ w.cell? ⟨g, o + 2, none⟩ = some (.string y) ∧ w.cell? ⟨g, o + 3, none⟩ = some (.pointer qe) ∧ w.cell? ⟨g, o + 4, none⟩ = some (.pointer qf) ∧ w.cell? ⟨g, o + 5, none⟩ = some (.pointer qc) ∧ w.cell? ⟨g, o + 6, none⟩ = some (.slice Aa na ca) ∧ w.cell? ⟨g, o + 7, none⟩ = some (.slice At nt ct) ∧ w.cell? ⟨g, o + 8, none⟩ = some (.slice Al nl cl) ∧ w.cell? ⟨g, o + 9, none⟩ = some (.int .i64 a)
theorem hstmts_step (w : World) (n c c' : Nat) (A A' : Option Addr) (hn : n ≤ 9223372036854775807)
 (hel : ∀ k, k < n → ∃ (g g' : Nat) (kd : Int) (x y : ByteArray) (qe qf qc qe' qf' qc' Aa Aa' : Option Addr) (na ca ca' : Nat) (At At' : Option Addr) (nt ct ct' : Nat) (Al Al' : Option Addr) (nl cl cl' : Nat) (a : Int), A = some ⟨g, 0, none⟩ ∧ A' = some ⟨g', 0, none⟩ ∧ StC w g (k * 10) kd x y qe qf qc Aa na ca At nt ct Al nl cl a ∧ StC w g' (k * 10) kd x y qe' qf' qc' Aa' na ca' At' nt ct' Al' nl cl' a ∧ ∀ w', Keeps [] w w' → Calls Tryz.prog 90 #[.agg #[.int .i64 kd, .string x, .string y, .pointer qe, .pointer qf, .pointer qc, .slice Aa na ca, .slice At nt ct, .slice Al nl cl, .int .i64 a], .agg #[.int .i64 kd, .string x, .string y, .pointer qe', .pointer qf', .pointer qc', .slice Aa' na ca', .slice At' nt ct', .slice Al' nl cl', .int .i64 a]] w' (Yes w')) :
 Calls Tryz.prog 48 #[.slice A n c, .slice A' n c'] w (Yes w) := by
 have HEL := Hd hel
 clear hel
 go_enter Tryz.func48, Tryz.ntmps48
 go_wp2_with fail
 go_loopw [5] (fun i wr => ∃ k : Nat, k ≤ n ∧ i = .int .i64 (k : Int) ∧ Keeps [] w wr) (fun i _ => n - (intOf i).toNat)
 case atStart => exact ⟨0, Nat.zero_le _, rfl, Keeps.refl _ _⟩
 case round =>
  obtain ⟨k, hk, rfl, hkp⟩ := hrel
  have HK := Hd hkp
  clear hkp
  by_cases hlt : k < n
  ·
   obtain ⟨g, g', kd, x, y, qe, qf, qc, qe', qf', qc', Aa, Aa', na, ca, ca', At, At', nt, ct, ct', Al, Al', nl, cl, cl', a, hA, hA', a0, b0, hcall⟩ := HEL.out k hlt
   subst hA hA'
   have D0 := Hd a0
   have E0 := Hd b0
   have HCALL := Hd hcall
   clear a0 b0 hcall
   have hp0 : (0 : Int) ≤ (k : Int) := by omega
   have hl0 : (k : Int) < (n : Int) := by omega
   go_wp2_with fail
   refine Reg.wp_region_state (A := ?A6) (fun _ w' => Keeps [] wr w') (fun _ _ => True)
    (Is (.slice (some ⟨g, 0, none⟩) n c) :: Is (.int .i64 (k : Int)) :: Is (.pointer (some ⟨g, k * 10, none⟩)) :: Is (.agg #[.int .i64 kd, .string x, .string y, .pointer qe, .pointer qf, .pointer qc, .slice Aa na ca, .slice At nt ct, .slice Al nl cl, .int .i64 a]) :: Is (.slice (some ⟨g', 0, none⟩) n c') :: Is (.int .i64 (k : Int)) :: Is (.pointer (some ⟨g', k * 10, none⟩)) :: Is (.agg #[.int .i64 kd, .string x, .string y, .pointer qe', .pointer qf', .pointer qc', .slice Aa' na ca', .slice At' nt ct', .slice Al' nl cl', .int .i64 a]) :: Is (.bool true) :: Is (.bool false) :: [])
    (by kernel_rfl) (by kernel_rfl) rfl ?hrg6A ?hrg6C ?hrg6o ?hrg6last ?hrg6end
   case hrg6A => intro vs; simp only [Reg.fill, if_true, Nat.zero_add, Nat.reduceAdd, Act.put, List.setIfInBounds_toArray, List.set_cons_succ, List.set_cons_zero]; exact rfl
   case hrg6C => exact (Keeps.refl _ _).drew
   case hrg6last => repeat (first | exact trivial | refine ⟨fun _ _ _ h _ => h, ?_⟩)
   case hrg6o =>
    repeat' apply And.intro
    all_goals
     first
      | exact trivial
      | (
       intro Ls vs w' hC hLs hd K hK
       try simp only [Reg.Deps, Reg.at_, List.getD_cons_zero, List.getD_cons_succ, Region.binds, true_implies, Is, and_true] at hd
       obtain ⟨d0, d1, d2, d3, d4, d5, d6, d7, d8, d9⟩ := D0.out
       obtain ⟨f0, f1, f2, f3, f4, f5, f6, f7, f8, f9⟩ := E0.out
       replace d0 := (HK.out.trans hC (fun _ h _ => h)).cell_some d0 (by simp)
       replace d1 := (HK.out.trans hC (fun _ h _ => h)).cell_some d1 (by simp)
       replace d2 := (HK.out.trans hC (fun _ h _ => h)).cell_some d2 (by simp)
       replace d3 := (HK.out.trans hC (fun _ h _ => h)).cell_some d3 (by simp)
       replace d4 := (HK.out.trans hC (fun _ h _ => h)).cell_some d4 (by simp)
       replace d5 := (HK.out.trans hC (fun _ h _ => h)).cell_some d5 (by simp)
       replace d6 := (HK.out.trans hC (fun _ h _ => h)).cell_some d6 (by simp)
       replace d7 := (HK.out.trans hC (fun _ h _ => h)).cell_some d7 (by simp)
       replace d8 := (HK.out.trans hC (fun _ h _ => h)).cell_some d8 (by simp)
       replace d9 := (HK.out.trans hC (fun _ h _ => h)).cell_some d9 (by simp)
       replace f0 := (HK.out.trans hC (fun _ h _ => h)).cell_some f0 (by simp)
       replace f1 := (HK.out.trans hC (fun _ h _ => h)).cell_some f1 (by simp)
       replace f2 := (HK.out.trans hC (fun _ h _ => h)).cell_some f2 (by simp)
       replace f3 := (HK.out.trans hC (fun _ h _ => h)).cell_some f3 (by simp)
       replace f4 := (HK.out.trans hC (fun _ h _ => h)).cell_some f4 (by simp)
       replace f5 := (HK.out.trans hC (fun _ h _ => h)).cell_some f5 (by simp)
       replace f6 := (HK.out.trans hC (fun _ h _ => h)).cell_some f6 (by simp)
       replace f7 := (HK.out.trans hC (fun _ h _ => h)).cell_some f7 (by simp)
       replace f8 := (HK.out.trans hC (fun _ h _ => h)).cell_some f8 (by simp)
       replace f9 := (HK.out.trans hC (fun _ h _ => h)).cell_some f9 (by simp)
       go_simp
       first
        | exact hK _ _ hC trivial rfl
        | skip)
    ·
     refine (HCALL.out _ (HK.out.trans hC (fun _ h _ => h))).mono ?_
     rintro e w2 ⟨rfl, hk⟩
     exact ⟨_, rfl, hK _ _ (hC.trans hk (fun _ h _ => h)) trivial rfl⟩
   case hrg6end =>
    intro vs w2 hC hall
    simp only [Reg.All, Is, and_true, Nat.zero_add, Nat.reduceAdd] at hall
    have eL := hall.2.2.2.2.2.2.2.2.2
    rw [eL]
    clear hall eL
    go_wp2
    go_roundw
    case rel => exact ⟨k + 1, by omega, by go_num, HK.out.trans hC (fun _ h _ => h)⟩
    case measure => simp [intOf]; omega
  ·
   go_wp2_with fail
   go_ret
   exact ⟨rfl, HK.out⟩
theorem own_len {w : World} {base : Nat} {T : TypeId} {sz n : Nat} {v : Value} {xs : List Value} (h : w.ownsRow base T sz v n xs) : n ≤ 9223372036854775807 := by
 rcases h.2 with ⟨_, rfl⟩ | ⟨g, cap, cur, _, _, _, h1, h2, _⟩
 · omega
 · unfold maxLen at h2; omega
theorem noVars {w : World} {b : Nat} : VarsAt w b [] (.slice none 0 0) := nil_row
theorem oex_keep {w w' : World} {b : Nat} {e : Option Ex} {v : Value} (h : OEx w b e v) (hk : Keeps [] w w') : OEx w' b e v := by
 cases e with
 | none => exact h
 | some e => exact ExAt.keep hk (by simp) h
theorem ocn_keep {w w' : World} {b : Nat} {e : Option Cn} {v : Value} (h : OCn w b e v) (hk : Keeps [] w w') : OCn w' b e v := by
 cases e with
 | none => exact h
 | some e => exact CnAt.keep hk (by simp) h
theorem varCells_get : ∀ {l : List Vr} {k : Nat} (h : k < l.length), (varCells l)[k * 2]? = some (.string (strO l[k].1)) ∧ (varCells l)[k * 2 + 1]? = some (.bool l[k].2)
 | [], k, h => by simp at h
 | p :: l, 0, h => ⟨rfl, rfl⟩
 | p :: l, k + 1, h => by
  have := varCells_get (l := l) (k := k) (by simpa using h)
  have e : varCells (p :: l) = [.string (strO p.1), .bool p.2] ++ varCells l := rfl
  rw [e, show (k + 1) * 2 = k * 2 + 2 by omega]
  simpa using this
theorem fieldsVar : (Tryz.prog.fieldsOf 123).toList = [{ name := "Name", type := 9, offset := 0, embedded := false, tag := "", pkgPath := "", byteOffset := 0 }, { name := "Ptr", type := 4, offset := 1, embedded := false, tag := "", pkgPath := "", byteOffset := 16 }] := by kernel_rfl
theorem same_var (b : Bool) (s : ByteArray) (w : World) : (binOp .neq 123 (.agg #[.string s, .bool b]) (.agg #[.string s, .bool b])).run Tryz.prog w = .ok (.bool false) w := by
 rw [run_neq_struct, show (10000 : Nat) = 9998 + 1 + 1 from rfl, run_equalIn_agg w _ _ _ _ (by kernel_rfl) (by kernel_rfl), fieldsVar]
 simp [Op.eqFields, go_sem]
theorem hvars_any (w : World) (l : List Vr) (b c : Nat) (v u : Value) (h1 : VarsAt w b l v) (h2 : VarsAt w c l u) :
 Calls Tryz.prog 47 #[v, u] w (Yes w) := by
 have hl := own_len h1
 obtain ⟨A1, c1, rfl⟩ := h1.form
 obtain ⟨A2, c2, rfl⟩ := h2.form
 have R1 := Hd h1
 have R2 := Hd h2
 clear h1 h2
 go_enter Tryz.func47, Tryz.ntmps47
 go_wp2_with fail
 go_loopw [5] (fun i wr => ∃ k : Nat, k ≤ l.length ∧ i = .int .i64 (k : Int) ∧ Keeps [] w wr) (fun i _ => l.length - (intOf i).toNat)
 case atStart => exact ⟨0, Nat.zero_le _, rfl, Keeps.refl _ _⟩
 case round =>
  obtain ⟨k, hk, rfl, hkp⟩ := hrel
  have HK := Hd hkp
  clear hkp
  by_cases hlt : k < l.length
  ·
   obtain ⟨g, cap, e1, hc⟩ := row_at R1.out (by omega)
   obtain ⟨g', cap', e2, hc'⟩ := row_at R2.out (by omega)
   injection e1 with e1 _ e3
   injection e2 with e2 _ e4
   subst e1 e2 e3 e4
   have a0 := HK.out.cell_some (hc (k * 2) _ (varCells_get hlt).1) (by simp)
   have a1 := HK.out.cell_some (hc (k * 2 + 1) _ (varCells_get hlt).2) (by simp)
   have b0 := HK.out.cell_some (hc' (k * 2) _ (varCells_get hlt).1) (by simp)
   have b1 := HK.out.cell_some (hc' (k * 2 + 1) _ (varCells_get hlt).2) (by simp)
   obtain ⟨s, hs⟩ : ∃ s, s = strO l[k].1 := ⟨_, rfl⟩
   obtain ⟨q, hq⟩ : ∃ q, q = l[k].2 := ⟨_, rfl⟩
   rw [← hs] at a0 b0
   rw [← hq] at a1 b1
   have hne := same_var q s
   obtain ⟨n, hn⟩ : ∃ n, n = l.length := ⟨_, rfl⟩
   rw [← hn] at hlt hk hl ⊢
   have HN := Hd hn
   have hp0 : (0 : Int) ≤ (k : Int) := by omega
   have hl0 : (k : Int) < (n : Int) := by omega
   clear hc hc' hs hq hn
   go_wp2_with fail
   go_quiet (fail)
   go_wp2_with fail
   go_roundw
   case rel => exact ⟨k + 1, by omega, by go_num, HK.out.drewN nq⟩
   case measure => simp [intOf]; omega
  ·
   go_wp2_with fail
   go_ret
   exact ⟨rfl, HK.out⟩
theorem argCells_get {vs : List Value} {k : Nat} (h : k < vs.length) : (argCells vs)[k * 3]? = some (.bool false) ∧ (argCells vs)[k * 3 + 1]? = some (.string .empty) ∧ (argCells vs)[k * 3 + 2]? = some vs[k] := by
 induction vs generalizing k with
 | nil => simp at h
 | cons v l ih =>
  have e : argCells (v :: l) = [.bool false, .string .empty, v] ++ argCells l := rfl
  rw [e]
  cases k with
  | zero => exact ⟨rfl, rfl, rfl⟩
  | succ k =>
   have := ih (k := k) (by simpa using h)
   rw [show (k + 1) * 3 = k * 3 + 3 by omega]
   simpa using this
theorem ExsAt.get {w : World} {b : Nat} : ∀ {l : List Ex} {vs : List Value}, ExsAt w b l vs → ∀ k (h : k < l.length) (h' : k < vs.length), ExAt w b l[k] vs[k]
 | e :: l, vs, ⟨v, r, h1, h2, h3⟩, k, h, h' => by
  subst h1
  cases k with
  | zero => exact h2
  | succ k => exact h3.get k (by simpa using h) (by simpa using h')
theorem args_pair {w : World} {b c : Nat} {l : List Ex} {A A' : Option Addr} {n n' ca ca' : Nat} (h : ArgsAt w b l (.slice A n ca)) (k : ArgsAt w c l (.slice A' n' ca')) :
 n = l.length ∧ n' = l.length ∧ ∀ j, j < l.length → ∃ g g' p p', A = some ⟨g, 0, none⟩ ∧ A' = some ⟨g', 0, none⟩ ∧ w.cell? ⟨g, j * 3, none⟩ = some (.bool false) ∧ w.cell? ⟨g, j * 3 + 1, none⟩ = some (.string .empty) ∧ w.cell? ⟨g, j * 3 + 2, none⟩ = some (.pointer p) ∧ w.cell? ⟨g', j * 3, none⟩ = some (.bool false) ∧ w.cell? ⟨g', j * 3 + 1, none⟩ = some (.string .empty) ∧ w.cell? ⟨g', j * 3 + 2, none⟩ = some (.pointer p') ∧ ∀ w', Keeps [] w w' → Calls Tryz.prog 121 #[.pointer p, .pointer p'] w' (Yes w') := by
 obtain ⟨vs, h1, h2⟩ := h
 obtain ⟨us, k1, k2⟩ := k
 obtain ⟨A1, c1, e1⟩ := row_slice h1
 obtain ⟨A2, c2, e2⟩ := row_slice k1
 injection e1 with _ e1 _
 injection e2 with _ e2 _
 refine ⟨e1, e2, fun j hj => ?_⟩
 obtain ⟨g, cap, e3, hc⟩ := row_at h1 (by omega)
 obtain ⟨g', cap', e4, hc'⟩ := row_at k1 (by omega)
 injection e3 with e3 _ _
 injection e4 with e4 _ _
 have hv : j < vs.length := by rw [h2.len]; exact hj
 have hu : j < us.length := by rw [k2.len]; exact hj
 have hx := h2.get j hj hv
 have hy := k2.get j hj hu
 obtain ⟨x, ex⟩ := hx.ptr
 obtain ⟨y, ey⟩ := hy.ptr
 obtain ⟨q1, q2, q3⟩ := argCells_get hv
 obtain ⟨r1, r2, r3⟩ := argCells_get hu
 refine ⟨g, g', _, _, e3, e4, hc _ _ q1, hc _ _ q2, ex ▸ hc _ _ q3, hc' _ _ r1, hc' _ _ r2, ey ▸ hc' _ _ r3, fun w' hk => ?_⟩
 rw [← ex, ← ey]
 exact hexpr_any _ _ _ _ _ _ (hx.keep hk (by simp)) (hy.keep hk (by simp))
theorem SmC.get {w : World} {b : Nat} {B : Nat → Prop} : ∀ {l : List Sm} {cs : List Value}, SmC w b B l cs → ∀ k (h : k < l.length), ∃ vs, SmAt w b B l[k] vs ∧ ∀ j u, vs[j]? = some u → cs[k * 10 + j]? = some u
 | s :: l, cs, ⟨vs, ds, h1, h2, h3⟩, k, h => by
  subst h1
  cases k with
  | zero =>
   refine ⟨vs, h2, fun j u hj => ?_⟩
   rw [Nat.zero_mul, Nat.zero_add, List.getElem?_append_left (List.getElem?_eq_some_iff.1 hj).1]
   exact hj
  | succ k =>
   obtain ⟨us, q1, q2⟩ := h3.get k (by simpa using h)
   refine ⟨us, q1, fun j u hj => ?_⟩
   have hl : vs.length = 10 := by
    obtain ⟨_, _, _, _, _, _, _, _, _, _, _, _, _, _, _, _, h⟩ := h2.form
    rw [h]; rfl
   rw [List.getElem?_append_right (by omega), hl, show (k + 1) * 10 + j - 10 = k * 10 + j by omega]
   exact q2 j u hj
def StOk (s : Sm) : Prop := ∀ (w : World) (b c : Nat) (B C : Nat → Prop) (vs us : List Value), SmAt w b B s vs → SmAt w c C s us → Calls Tryz.prog 90 #[.agg vs.toArray, .agg us.toArray] w (Yes w)
theorem hsts_of {l : List Sm} (hl : ∀ k (h : k < l.length), StOk l[k]) (w : World) (b c : Nat) (B C : Nat → Prop) (v u : Value) (h : SsB w b B l v) (k : SsB w c C l u) : Calls Tryz.prog 48 #[v, u] w (Yes w) := by
 obtain ⟨cs, h1, -, h3⟩ := h
 obtain ⟨ds, k1, -, k3⟩ := k
 obtain ⟨A1, c1, rfl⟩ := row_slice h1
 obtain ⟨A2, c2, rfl⟩ := row_slice k1
 refine hstmts_step w _ _ _ _ _ (by have := own_len h1; omega) (fun j hj => ?_)
 obtain ⟨g, cap, e3, hc⟩ := row_at h1 (by omega)
 obtain ⟨g', cap', e4, hc'⟩ := row_at k1 (by omega)
 injection e3 with e3 _ _
 injection e4 with e4 _ _
 obtain ⟨vs, q1, q2⟩ := h3.get j hj
 obtain ⟨us, r1, r2⟩ := k3.get j hj
 have hok := hl j hj
 obtain ⟨s, hs⟩ : ∃ s, s = l[j] := ⟨_, rfl⟩
 rw [← hs] at q1 r1 hok
 have hcall : ∀ w', Keeps [] w w' → Calls Tryz.prog 90 #[.agg vs.toArray, .agg us.toArray] w' (Yes w') := fun w' hk => hok w' b c B C vs us (SmAt.keep hk off_nil _ _ q1) (SmAt.keep hk off_nil _ _ r1)
 obtain ⟨kd, x, y, e, f, cn, args, th, el, a⟩ := s
 obtain ⟨ve, vf, vc, va, vt, vl, rfl, h2, h3, h4, h5, ⟨c1, h6, h7, h8⟩, ⟨c2, h9, h10, h11⟩⟩ := q1
 obtain ⟨ue, uf, uc, ua, ut, ul, rfl, k2, k3, k4, k5, ⟨d1, k6, k7, k8⟩, ⟨d2, k9, k10, k11⟩⟩ := r1
 obtain ⟨_, rfl⟩ := h2.ptr
 obtain ⟨_, rfl⟩ := h3.ptr
 obtain ⟨_, rfl⟩ := h4.ptr
 obtain ⟨_, rfl⟩ := k2.ptr
 obtain ⟨_, rfl⟩ := k3.ptr
 obtain ⟨_, rfl⟩ := k4.ptr
 obtain ⟨_, _, rfl⟩ := h5.form
 obtain ⟨_, _, rfl⟩ := k5.form
 obtain ⟨_, _, rfl⟩ := row_slice h6
 obtain ⟨_, _, rfl⟩ := row_slice h9
 obtain ⟨_, _, rfl⟩ := row_slice k6
 obtain ⟨_, _, rfl⟩ := row_slice k9
 refine ⟨g, g', _, _, _, _, _, _, _, _, _, _, _, _, _, _, _, _, _, _, _, _, _, _, _, _, _, e3, e4, ?_, ?_, hcall⟩
 · exact ⟨hc _ _ (q2 0 _ rfl), hc _ _ (q2 1 _ rfl), hc _ _ (q2 2 _ rfl), hc _ _ (q2 3 _ rfl), hc _ _ (q2 4 _ rfl), hc _ _ (q2 5 _ rfl), hc _ _ (q2 6 _ rfl), hc _ _ (q2 7 _ rfl), hc _ _ (q2 8 _ rfl), hc _ _ (q2 9 _ rfl)⟩
 · exact ⟨hc' _ _ (r2 0 _ rfl), hc' _ _ (r2 1 _ rfl), hc' _ _ (r2 2 _ rfl), hc' _ _ (r2 3 _ rfl), hc' _ _ (r2 4 _ rfl), hc' _ _ (r2 5 _ rfl), hc' _ _ (r2 6 _ rfl), hc' _ _ (r2 7 _ rfl), hc' _ _ (r2 8 _ rfl), hc' _ _ (r2 9 _ rfl)⟩
theorem stOk_of {kd : Nat} {x y : Tx} {e f : Option Ex} {cn : Option Cn} {args : List Ex} {th el : List Sm} {a : Nat} (ht : ∀ k (h : k < th.length), StOk th[k]) (hl : ∀ k (h : k < el.length), StOk el[k]) : StOk (.mk kd x y e f cn args th el a) := by
 intro w b c B C vs us h k
 obtain ⟨ve, vf, vc, va, vt, vl, rfl, h2, h3, h4, h5, ⟨c1, h6, h7, h8⟩, ⟨c2, h9, h10, h11⟩⟩ := h
 obtain ⟨ue, uf, uc, ua, ut, ul, rfl, k2, k3, k4, k5, ⟨d1, k6, k7, k8⟩, ⟨d2, k9, k10, k11⟩⟩ := k
 obtain ⟨_, rfl⟩ := h2.ptr
 obtain ⟨_, rfl⟩ := h3.ptr
 obtain ⟨_, rfl⟩ := h4.ptr
 obtain ⟨_, rfl⟩ := k2.ptr
 obtain ⟨_, rfl⟩ := k3.ptr
 obtain ⟨_, rfl⟩ := k4.ptr
 have hlen : args.length ≤ 9223372036854775807 := by obtain ⟨_, q, _⟩ := h5; exact own_len q
 obtain ⟨_, _, rfl⟩ := h5.form
 obtain ⟨_, _, rfl⟩ := k5.form
 obtain ⟨-, -, hp⟩ := args_pair h5 k5
 obtain ⟨_, _, rfl⟩ := row_slice h6
 obtain ⟨_, _, rfl⟩ := row_slice h9
 obtain ⟨_, _, rfl⟩ := row_slice k6
 obtain ⟨_, _, rfl⟩ := row_slice k9
 exact hstmt_step w _ _ _ _ _ _ _ _ _ _ _ _ _ _ _ _ _ _ _ _ _ _ _ _ _ _ _ hlen hp (fun w' hk => hoex_any (oex_keep h2 hk) (oex_keep k2 hk)) (fun w' hk => hoex_any (oex_keep h3 hk) (oex_keep k3 hk)) (fun w' hk => hocn_any (ocn_keep h4 hk) (ocn_keep k4 hk))
  (fun w' hk => hsts_of ht w' b c B C _ _ ⟨c1, owned_keep h6 hk (by simp), h7, SmC.keep hk off_nil th c1 h8⟩ ⟨d1, owned_keep k6 hk (by simp), k7, SmC.keep hk off_nil th d1 k8⟩)
  (fun w' hk => hsts_of hl w' b c B C _ _ ⟨c2, owned_keep h9 hk (by simp), h10, SmC.keep hk off_nil el c2 h11⟩ ⟨d2, owned_keep k9 hk (by simp), k10, SmC.keep hk off_nil el d2 k11⟩)
mutual
theorem stOk_any : ∀ (s : Sm), StOk s
 | .mk _ _ _ _ _ _ _ th el _ => stOk_of (stsOk_any th) (stsOk_any el)
theorem stsOk_any : ∀ (l : List Sm) (k : Nat) (h : k < l.length), StOk l[k]
 | s :: _, 0, _ => stOk_any s
 | _ :: l, k + 1, h => stsOk_any l k (by simpa using h)
end
theorem hsts_any {w : World} {lo lo' b c : Nat} {p : List Sm × Nat} {v u : Value} (h : SsAt lo w b p v) (k : SsAt lo' w c p u) : Calls Tryz.prog 48 #[v, u] w (Yes w) := by
 obtain ⟨B, h, _⟩ := h
 obtain ⟨C, k, _⟩ := k
 exact hsts_of (stsOk_any p.1) w b c B C v u h k
theorem hfunc_step (w : World) (s : ByteArray) (A1 A2 A3 A1' A2' A3' : Option Addr) (n1 n2 n3 c1 c2 c3 n1' n2' n3' c1' c2' c3' : Nat)
 (hP : ∀ w', Keeps [] w w' → Calls Tryz.prog 47 #[.slice A1 n1 c1, .slice A1' n1' c1'] w' (Yes w'))
 (hL : ∀ w', Keeps [] w w' → Calls Tryz.prog 47 #[.slice A2 n2 c2, .slice A2' n2' c2'] w' (Yes w'))
 (hB : ∀ w', Keeps [] w w' → Calls Tryz.prog 48 #[.slice A3 n3 c3, .slice A3' n3' c3'] w' (Yes w')) :
 Calls Tryz.prog 17 #[.agg #[.string s, .slice A1 n1 c1, .slice A2 n2 c2, .slice A3 n3 c3], .agg #[.string s, .slice A1' n1' c1', .slice A2' n2' c2', .slice A3' n3' c3']] w (Yes w) := by
 have HB0 := Hd (show ((w.alloc (.cells #[.string s, .slice A1 n1 c1, .slice A2 n2 c2, .slice A3 n3 c3] 26)).alloc (.cells #[.string s, .slice A1' n1' c1', .slice A2' n2' c2', .slice A3' n3' c3'] 26)).heap[w.heap.size]? = some (.cells #[.string s, .slice A1 n1 c1, .slice A2 n2 c2, .slice A3 n3 c3] 26 (0, 0)) from block_keep (heap_alloc_new w _) ((Keeps.refl [] _).alloc _) (by simp))
 have HB1 := Hd (show ((w.alloc (.cells #[.string s, .slice A1 n1 c1, .slice A2 n2 c2, .slice A3 n3 c3] 26)).alloc (.cells #[.string s, .slice A1' n1' c1', .slice A2' n2' c2', .slice A3' n3' c3'] 26)).heap[w.heap.size + 1]? = some (.cells #[.string s, .slice A1' n1' c1', .slice A2' n2' c2', .slice A3' n3' c3'] 26 (0, 0)) from by have := heap_alloc_new (w.alloc (.cells #[.string s, .slice A1 n1 c1, .slice A2 n2 c2, .slice A3 n3 c3] 26)) (.cells #[.string s, .slice A1' n1' c1', .slice A2' n2' c2', .slice A3' n3' c3'] 26); simpa using this)
 have HKK := Hd (show Keeps [] w ((w.alloc (.cells #[.string s, .slice A1 n1 c1, .slice A2 n2 c2, .slice A3 n3 c3] 26)).alloc (.cells #[.string s, .slice A1' n1' c1', .slice A2' n2' c2', .slice A3' n3' c3'] 26)) from ((Keeps.refl [] w).alloc _).alloc _)
 have HP := Hd hP
 have HL := Hd hL
 have HB := Hd hB
 clear hP hL hB
 have e1 : (s.toList == s.toList) = true := by simp
 go_enter Tryz.func17, Tryz.ntmps17
 go_wp2_with fail
 generalize hX1 : w.heap.size + 1 = X1 at HB1 ⊢
 generalize hX0 : w.heap.size = X0 at HB0 HB1 ⊢
 generalize hW : (w.alloc (.cells #[.string s, .slice A1 n1 c1, .slice A2 n2 c2, .slice A3 n3 c3] 26)).alloc (.cells #[.string s, .slice A1' n1' c1', .slice A2' n2' c2', .slice A3' n3' c3'] 26) = W at HB0 HB1 HKK ⊢
 clear hX1 hX0 hW
 have c02 := row_cell HB0.out 2
 have c12 := row_cell HB1.out 2
 have c03 := row_cell HB0.out 3
 have c13 := row_cell HB1.out 3
 simp only [List.getElem?_toArray, List.getElem?_cons_zero, List.getElem?_cons_succ] at c02 c12 c03 c13
 refine (HP.out _ HKK.out).mono ?_
 rintro e v1 ⟨rfl, hk⟩
 have HK := zV HKK hk
 replace c02 := hk.cell_some c02 (by simp)
 replace c12 := hk.cell_some c12 (by simp)
 replace c03 := hk.cell_some c03 (by simp)
 replace c13 := hk.cell_some c13 (by simp)
 clear hk
 go_wp2_with fail
 refine (HL.out _ HK.out).mono ?_
 rintro e v2 ⟨rfl, hk⟩
 have HK := zV HK hk
 replace c03 := hk.cell_some c03 (by simp)
 replace c13 := hk.cell_some c13 (by simp)
 clear hk c02 c12
 go_wp2_with fail
 refine (HB.out _ HK.out).mono ?_
 rintro e v3 ⟨rfl, hk⟩
 have HK := zV HK hk
 clear hk
 go_wp2_with fail
 go_ret
 exact ⟨rfl, HK.out⟩
theorem vars_keep {w w' : World} {b : Nat} {l : List Vr} {v : Value} (h : VarsAt w b l v) (hk : Keeps [] w w') : VarsAt w' b l v := owned_keep h hk (by simp)
theorem hvars_nil (w : World) : Calls Tryz.prog 47 #[.slice none 0 0, .slice none 0 0] w (Yes w) := hvars_any w [] 0 0 _ _ noVars noVars
theorem hfunc_any (w : World) (g : Option (Px.Fn × Nat)) (lo lo' : Nat) (v u : Value) (h : Val FnAt (.agg #[.string .empty, .slice none 0 0, .slice none 0 0, .slice none 0 0]) lo w g v) (k : Val FnAt (.agg #[.string .empty, .slice none 0 0, .slice none 0 0, .slice none 0 0]) lo' w g u) :
 Calls Tryz.prog 17 #[v, u] w (Yes w) := by
 cases g with
 | none =>
  obtain rfl : v = _ := h
  obtain rfl : u = _ := k
  exact hfunc_step w _ _ _ _ _ _ _ _ _ _ _ _ _ _ _ _ _ _ _ (fun w' _ => hvars_nil w') (fun w' _ => hvars_nil w') (fun w' _ => hsts_of (l := []) (fun k h => by simp at h) w' 0 0 (fun _ => True) (fun _ => True) _ _ SsB.none SsB.none)
 | some p =>
  obtain ⟨b, _, vp, vl, vb, rfl, h1, h2, h3⟩ := h
  obtain ⟨c, _, up, ul, ub, rfl, k1, k2, k3⟩ := k
  obtain ⟨_, _, rfl⟩ := h1.form
  obtain ⟨_, _, rfl⟩ := h2.form
  obtain ⟨_, _, rfl⟩ := h3.form
  obtain ⟨_, _, rfl⟩ := k1.form
  obtain ⟨_, _, rfl⟩ := k2.form
  obtain ⟨_, _, rfl⟩ := k3.form
  exact hfunc_step w _ _ _ _ _ _ _ _ _ _ _ _ _ _ _ _ _ _ _ (fun w' hk => hvars_any w' _ _ _ _ _ (vars_keep h1 hk) (vars_keep k1 hk)) (fun w' hk => hvars_any w' _ _ _ _ _ (vars_keep h2 hk) (vars_keep k2 hk)) (fun w' hk => hsts_any (h3.keepS hk (by simp)) (k3.keepS hk (by simp)))
end
end Go.Proofs.YtbikifibfaaggaaGreatDoor
