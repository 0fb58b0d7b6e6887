/- ParseOrder: a sum with all its parentheses. -/
import Derived.Test.YtbikifibfaaggaaGreatDoorPKnown
import Derived.Test.YtbikifibfaaggaaGreatDoorPDeep
import Derived.Test.YtbikifibfaaggaaGreatDoorPOrdM
import Derived.Test.YtbikifibfaaggaaGreatDoorRegion
import Derived.IntWalk
namespace Go.Proofs.YtbikifibfaaggaaGreatDoor
open Go.RowKit Go.Shelf
open Lx (Tok Tx)
open Reg (Is Fact)
attribute [local go_sem] Reg.lateFr Reg.wantedV Reg.gives_value Reg.gives_skip Reg.gives_enter

theorem Is.lastK {u : Value} : ∀ v w w', Is u v w → Keeps [] w w' → Is u v w' := fun _ _ _ h _ => h
/-- A new row that holds the cells cs. -/
def RowF (n : Nat) (cs : List Value) : Fact := fun v w => ∃ x, v = .slice (some ⟨x, 0, none⟩) n n ∧ ∀ (j : Nat) u, cs[j]? = some u → w.cell? ⟨x, j, none⟩ = some u
theorem RowF.last {n : Nat} {cs : List Value} : ∀ v w w', RowF n cs v w → Keeps [] w w' → RowF n cs v w' :=
  fun _ _ _ ⟨x, h1, h2⟩ hk => ⟨x, h1, fun j u hu => hk.cell_some (h2 j u hu) (by simp)⟩
/-- A pointer to a cell that holds u. -/
def PtrF (u : Value) : Fact := fun v w => ∃ a, v = .pointer (some a) ∧ w.cell? a = some u
theorem PtrF.last {u : Value} : ∀ v w w', PtrF u v w → Keeps [] w w' → PtrF u v w' :=
  fun _ _ _ ⟨a, h1, h2⟩ hk => ⟨a, h1, hk.cell_some h2 (by simp)⟩
theorem cell_newS (w : World) (cs : List Value) (t : TypeId) (j : Nat) : (w.alloc (.cells cs.toArray t)).cell? ⟨w.heap.size, j, none⟩ = cs[j]? := by
  rw [row_cell (heap_alloc_new w _)]; simp
def sigs : List Value := [.string ⟨#[43]⟩, .string ⟨#[45]⟩, .string ⟨#[42]⟩, .string ⟨#[47]⟩, .string ⟨#[37]⟩]
theorem sigs_get : ∀ (c : Nat), c < 5 → sigs[c]? = some (.string (strO [Px.sg c]))
  | 0, _ => rfl | 1, _ => rfl | 2, _ => rfl | 3, _ => rfl | 4, _ => rfl
  | n + 5, h => absurd h (by omega)
theorem l14_get : ∀ (k : Nat), k < 14 → (⟨#[50, 51, 52, 53, 54, 55, 56, 57, 97, 98, 99, 100, 101, 102]⟩ : ByteArray).extract k (k + 1) = strO [Px.pcb k]
  | 0, _ => rfl
  | 1, _ => rfl
  | 2, _ => rfl
  | 3, _ => rfl
  | 4, _ => rfl
  | 5, _ => rfl
  | 6, _ => rfl
  | 7, _ => rfl
  | 8, _ => rfl
  | 9, _ => rfl
  | 10, _ => rfl
  | 11, _ => rfl
  | 12, _ => rfl
  | 13, _ => rfl
  | n + 14, h => absurd h (by omega)
/-- A byte's sign. -/
def sgOf (b : UInt8) : Nat := b.toNat % 5
theorem sgOf_lt (b : UInt8) : sgOf b < 5 := Nat.mod_lt _ (by omega)
/-- What stands behind k signs. -/
def ordX (l : List UInt8) (k : Nat) : Tx := 49 :: Px.opsT 0 ((l.map sgOf).take k)
theorem ordX_len (l : List UInt8) (k : Nat) : (ordX l k).length ≤ 1 + 4 * k := by
  unfold ordX
  rw [List.length_cons, Px.opsT_len, List.length_take]
  omega
theorem ordX_next (l : List UInt8) (k : Nat) (h : k < l.length) : ordX l (k + 1) = ordX l k ++ [32, Px.sg (sgOf l[k]), 32, Px.pcb k] := by
  unfold ordX
  rw [List.take_add_one, List.getElem?_map, List.getElem?_eq_getElem h]
  simp only [Option.map_some, Option.toList_some]
  rw [Px.opsT_snoc, List.length_take, List.length_map, Nat.min_eq_left (by omega), Nat.zero_add]
  rfl
theorem digs_get : ∀ (k : Nat), k < 10 → (⟨#[48, 49, 50, 51, 52, 53, 54, 55, 56, 57]⟩ : ByteArray).extract k (k + 1) = strO (Lx.dec k)
  | 0, _ => by rw [Lx.dec_small (by omega)]; rfl
  | 1, _ => by rw [Lx.dec_small (by omega)]; rfl
  | 2, _ => by rw [Lx.dec_small (by omega)]; rfl
  | 3, _ => by rw [Lx.dec_small (by omega)]; rfl
  | 4, _ => by rw [Lx.dec_small (by omega)]; rfl
  | 5, _ => by rw [Lx.dec_small (by omega)]; rfl
  | 6, _ => by rw [Lx.dec_small (by omega)]; rfl
  | 7, _ => by rw [Lx.dec_small (by omega)]; rfl
  | 8, _ => by rw [Lx.dec_small (by omega)]; rfl
  | 9, _ => by rw [Lx.dec_small (by omega)]; rfl
  | n + 10, h => absurd h (by omega)
set_option maxHeartbeats 1000000 in
theorem decS_any (w : World) (n : Nat) (hn : n < 10) : Calls Tryz.prog 57 #[.int .i64 (n : Int)] w fun e w' => e = .returned (.string (strO (Lx.dec n))) ∧ w = w' := by
  have hd := digs_get n hn
  have h1 : ¬ (n : Int) < 0 := by omega
  have h2 : (n : Int) < 10 := by omega
  obtain ⟨s, hs⟩ : ∃ s, s = strO (Lx.dec n) := ⟨_, rfl⟩
  rw [← hs] at hd ⊢
  clear hs
  go_enter Tryz.func57, Tryz.ntmps57
  go_wp2
  go_ret
  exact ⟨rfl, rfl⟩
/-- A sum such as whole tells. -/
def OkE : Px.Ex → Prop
  | .num n => n < 10
  | .var _ => True
  | .neg _ => False
  | .bin k a b => 2 ≤ k ∧ k ≤ 6 ∧ OkE a ∧ OkE b
def WholeP (w : World) (t : Tx) (e : Ending) (w' : World) : Prop := e = .returned (.string (strO t)) ∧ Keeps [] w w'
set_option maxHeartbeats 1000000 in
theorem whole_num (w : World) (x n : Nat) (hn : n < 10) (hx : w.heap[x]? = some (.cells #[.int .i64 0, .int .i64 (n : Int), .string .empty, .pointer none, .pointer none] 74 (0, 0))) :
    Calls Tryz.prog 23 #[.pointer (some ⟨x, 0, none⟩)] w (WholeP w (Lx.dec n)) := by
  have a0 := row_cell hx 0
  have a1 := row_cell hx 1
  simp only [List.getElem?_toArray, List.getElem?_cons_zero, List.getElem?_cons_succ] at a0 a1
  have HD := Lib.hid (fun w' => decS_any w' n hn)
  clear hx hn
  go_enter Tryz.func23, Tryz.ntmps23
  go_wp2_with fail
  refine (HD.out _).mono ?_
  rintro e w' ⟨rfl, rfl⟩
  go_wp2_with fail
  go_ret
  exact ⟨rfl, Keeps.refl _ _⟩
set_option maxHeartbeats 1000000 in
theorem whole_var (w : World) (x : Nat) (t : Tx) (hx : w.heap[x]? = some (.cells #[.int .i64 1, .int .i64 0, .string (strO t), .pointer none, .pointer none] 74 (0, 0))) :
    Calls Tryz.prog 23 #[.pointer (some ⟨x, 0, none⟩)] w (WholeP w t) := by
  have a0 := row_cell hx 0
  have a2 := row_cell hx 2
  simp only [List.getElem?_toArray, List.getElem?_cons_zero, List.getElem?_cons_succ] at a0 a2
  unfold WholeP
  obtain ⟨s, hs⟩ : ∃ s, s = strO t := ⟨_, rfl⟩
  rw [← hs] at a2 ⊢
  clear hx hs
  go_enter Tryz.func23, Tryz.ntmps23
  go_wp2_with fail
  go_ret
  exact ⟨rfl, Keeps.refl _ _⟩
set_option maxHeartbeats 4000000 in
set_option maxRecDepth 100000 in
theorem whole_bin (w : World) (x kk : Nat) (pa pc : Option Addr) (ta tb : Tx) (hk2 : 2 ≤ kk) (hk6 : kk ≤ 6) (hla : ta.length ≤ 10000) (hlb : tb.length ≤ 10000) (hx : w.heap[x]? = some (.cells #[.int .i64 (kk : Int), .int .i64 0, .string .empty, .pointer pa, .pointer pc] 74 (0, 0)))
    (hA : ∀ w', Keeps [] w w' → Calls Tryz.prog 23 #[.pointer pa] w' (WholeP w' ta)) (hB : ∀ w', Keeps [] w w' → Calls Tryz.prog 23 #[.pointer pc] w' (WholeP w' tb)) :
    Calls Tryz.prog 23 #[.pointer (some ⟨x, 0, none⟩)] w (WholeP w ([40] ++ ta ++ Px.sgT kk ++ tb ++ [41])) := by
  have a0 := row_cell hx 0
  have a3 := row_cell hx 3
  have a4 := row_cell hx 4
  simp only [List.getElem?_toArray, List.getElem?_cons_zero, List.getElem?_cons_succ] at a0 a3 a4
  have A0 := Lib.hid a0
  have A3 := Lib.hid a3
  have A4 := Lib.hid a4
  obtain ⟨c, hc⟩ : ∃ c, c = kk - 2 := ⟨_, rfl⟩
  have hc5 : c < 5 := by omega
  have HSG := Lib.hid (sigs_get c hc5)
  unfold WholeP at hA hB ⊢
  obtain ⟨wa, hwa⟩ : ∃ s, s = strO ta := ⟨_, rfl⟩
  obtain ⟨wb, hwb⟩ : ∃ s, s = strO tb := ⟨_, rfl⟩
  obtain ⟨sx, hsx⟩ : ∃ s, s = strO [Px.sg c] := ⟨_, rfl⟩
  have hza : wa.size ≤ 10000 := by rw [hwa, strO_len]; exact hla
  have hzb : wb.size ≤ 10000 := by rw [hwb, strO_len]; exact hlb
  have hzx : sx.size = 1 := by rw [hsx, strO_len]; rfl
  obtain ⟨T1, hT1⟩ : ∃ s, s = (⟨#[40]⟩ : ByteArray) ++ wa := ⟨_, rfl⟩
  have hz1 : T1.size ≤ 10001 := by rw [hT1, ByteArray.size_append]; show 1 + _ ≤ _; omega
  obtain ⟨T2, hT2⟩ : ∃ s, s = T1 ++ sx := ⟨_, rfl⟩
  have hz2 : T2.size ≤ 10002 := by rw [hT2, ByteArray.size_append]; omega
  obtain ⟨T3, hT3⟩ : ∃ s, s = T2 ++ wb := ⟨_, rfl⟩
  have hz3 : T3.size ≤ 20002 := by rw [hT3, ByteArray.size_append]; omega
  obtain ⟨T4, hT4⟩ : ∃ s, s = T3 ++ (⟨#[41]⟩ : ByteArray) := ⟨_, rfl⟩
  have HT4 := Lib.hid (show T4 = strO ([40] ++ ta ++ Px.sgT kk ++ tb ++ [41]) by
    rw [hT4, hT3, hT2, hT1, hwa, hwb, hsx, show (⟨#[40]⟩ : ByteArray) = strO [40] from rfl, show (⟨#[41]⟩ : ByteArray) = strO [41] from rfl, strO_cat, strO_cat, strO_cat, strO_cat, hc]; rfl)
  have c1 : ∀ w, (Op.stringOp .add (⟨#[40]⟩ : ByteArray) wa).run Tryz.prog w = .ok (.string T1) w := fun w => by rw [hT1]; exact run_string_add_sum w _ _ (by show 1 + _ ≤ _; omega)
  have c2 : ∀ w, (Op.stringOp .add T1 sx).run Tryz.prog w = .ok (.string T2) w := fun w => by rw [hT2]; exact run_string_add_sum w _ _ (by omega)
  have c3 : ∀ w, (Op.stringOp .add T2 wb).run Tryz.prog w = .ok (.string T3) w := fun w => by rw [hT3]; exact run_string_add_sum w _ _ (by omega)
  have c4 : ∀ w, (Op.stringOp .add T3 (⟨#[41]⟩ : ByteArray)).run Tryz.prog w = .ok (.string T4) w := fun w => by rw [hT4]; exact run_string_add_sum w _ _ (by show _ + 1 ≤ _; omega)
  rw [← HT4.out]
  rw [← hwa] at hA
  rw [← hwb] at hB
  rw [← hsx] at HSG
  have HWA := Lib.hid hA
  have HWB := Lib.hid hB
  have hs2 : IntKind.i64.wrap ((kk : Int) - 2) = (c : Int) := by rw [IntWalk.i64_in _ (by omega)]; omega
  have r5 : ((c : Nat) : Int) % 5 = (c : Int) := by omega
  have t5 : ((c : Nat) : Int).tmod 5 = (c : Int) := by rw [Int.tmod_eq_emod_of_nonneg (by omega)]; omega
  have n0 : ((kk : Int) == 0) = false := by simp; omega
  have n1 : ((kk : Int) == 1) = false := by simp; omega
  have hc0 : (0 : Int) ≤ (c : Int) := by omega
  have hcl : (c : Int) < (5 : Int) := by omega
  clear hT1 hT2 hT3 hT4 hwa hwb hsx hA hB hx hc a3 a4
  go_enter Tryz.func23, Tryz.ntmps23
  go_wp2_with fail
  refine Reg.wp_region_free (A := ?A6) (fun _ _ w' => Keeps [] w w') (Keeps [])
    ((Is (.pointer (some ⟨x, 0, none⟩))) :: (Is (.pointer (some ⟨x, 0, none⟩))) :: (Is (.pointer (some ⟨x, 3, none⟩))) :: (Is (.pointer pa)) :: (Is (.string wa)) :: (Is (.string T1)) :: (RowF 5 sigs) :: (Is (.pointer (some ⟨x, 0, none⟩))) :: (Is (.pointer (some ⟨x, 0, none⟩))) :: (Is (.pointer (some ⟨x, 0, none⟩))) :: (Is (.int .i64 (kk : Int))) :: (Is (.int .i64 (c : Int))) :: (Is (.int .i64 (c : Int))) :: (PtrF (.string sx)) :: (Is (.string sx)) :: (Is (.string T2)) :: (Is (.pointer (some ⟨x, 0, none⟩))) :: (Is (.pointer (some ⟨x, 0, none⟩))) :: (Is (.pointer (some ⟨x, 4, none⟩))) :: (Is (.pointer pc)) :: (Is (.string wb)) :: (Is (.string T3)) :: (Is (.string T4)) :: (Is (.string T4)) :: [])
    (by kernel_rfl) (by kernel_rfl) rfl ?hg6A ?hg6C ?hg6o ?hg6last ?hg6end
  case hg6A => intro vs; simp only [Reg.fill, if_true, Nat.zero_add, Nat.reduceAdd, Act.put, List.setIfInBounds_toArray, List.set_cons_succ, List.set_cons_zero]; exact rfl
  case hg6C => exact fun vs => (Keeps.refl _ _).drew
  case hg6last => repeat (first | exact trivial | refine ⟨Is.lastK, ?_⟩ | refine ⟨RowF.last, ?_⟩ | refine ⟨PtrF.last, ?_⟩)
  case hg6o =>
    repeat' apply And.intro
    all_goals
      first
        | exact trivial
        | (intro Ls vs w' hC hLs hd ha K hK
           try simp only [Reg.Deps, Reg.at_, List.getD_cons_zero, List.getD_cons_succ, Region.binds, true_implies, Is, and_true] at hd
           have x0 := hC.cell_some A0.out (by simp)
           have x3 := hC.cell_some A3.out (by simp)
           have x4 := hC.cell_some A4.out (by simp)
           go_simp
           first
             | exact hK _ _ hC (Keeps.refl _ _) rfl
             | exact hK _ _ hC (Keeps.refl _ _) hd.1
             | skip)
    · refine (HWA.out _ hC).mono ?_
      rintro e w2 ⟨rfl, hk⟩
      exact ⟨_, rfl, hK _ _ (hC.trans hk (fun _ h _ => h)) hk rfl⟩
    · refine hK _ _ (hC.alloc _) ((Keeps.refl _ _).alloc _) ⟨w'.heap.size, rfl, fun j u hu => ?_⟩
      exact (cell_newS w' sigs 9 j).trans hu
    · obtain ⟨⟨x9, hx9, hcl⟩, -⟩ := hd
      rw [hx9]
      go_simp
      exact hK _ _ hC (Keeps.refl _ _) ⟨_, rfl, hcl c _ HSG.out⟩
    · obtain ⟨a9, hxa, hcl⟩ := hd
      rw [hxa]
      simp only [Sem.run_pure, Result.andThen_ok, hcl]
      exact hK _ _ hC (Keeps.refl _ _) rfl
    · refine (HWB.out _ hC).mono ?_
      rintro e w2 ⟨rfl, hk⟩
      exact ⟨_, rfl, hK _ _ (hC.trans hk (fun _ h _ => h)) hk rfl⟩
  case hg6end =>
    intro vs w2 hC hall
    simp only [Reg.All, Is, and_true, Nat.zero_add, Nat.reduceAdd] at hall
    have eL := hall.2.2.2.2.2.2.2.2.2.2.2.2.2.2.2.2.2.2.2.2.2.2.2
    rw [eL]
    clear hall eL
    go_wp2_with fail
    go_ret
    exact ⟨rfl, hC⟩
theorem whole_any : ∀ (e : Px.Ex) (w : World) (b : Nat) (v : Value), ExAt w b e v → OkE e → (Px.wholeT e).length ≤ 10000 → Calls Tryz.prog 23 #[v] w (WholeP w (Px.wholeT e))
  | .num n, w, b, v, ⟨x, h1, _, h3⟩, hk, _ => by
    subst h1
    exact whole_num w x n hk h3
  | .var s, w, b, v, ⟨x, h1, _, h3⟩, _, _ => by
    subst h1
    exact whole_var w x s h3
  | .bin k a c, w, b, v, ⟨x, va, vc, h1, _, h3, h4, h5⟩, ⟨k2, k6, ka, kc⟩, hl => by
    subst h1
    obtain ⟨xa, rfl⟩ := h4.ptr
    obtain ⟨xc, rfl⟩ := h5.ptr
    have hl' : 1 + (Px.wholeT a).length + 1 + (Px.wholeT c).length + 1 ≤ 10000 := by
      have : (Px.wholeT (.bin k a c)).length = 1 + (Px.wholeT a).length + 1 + (Px.wholeT c).length + 1 := by
        rw [Px.wholeT]; simp only [List.length_append, List.length_cons, List.length_nil, Px.sgT]
      omega
    rw [Px.wholeT]
    exact whole_bin w x k _ _ _ _ k2 k6 (by omega) (by omega) h3 (fun w' hk => whole_any a w' b _ (h4.keep hk (by simp)) ka (by omega)) (fun w' hk => whole_any c w' b _ (h5.keep hk (by simp)) kc (by omega))
end Go.Proofs.YtbikifibfaaggaaGreatDoor
