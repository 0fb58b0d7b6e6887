import Derived.Test.YtbikifibfaaggaaGreatDoorVMN
namespace Go.Proofs.YtbikifibfaaggaaGreatDoor
section
set_option maxHeartbeats 4000000
set_option maxRecDepth 100000
open Go.RowKit Go.Shelf
open Lx (Tok Tx)
open Px (Ex Cn Sm Vr Gl)
theorem infoStr : (Tryz.prog.info? 9).map (fun i => (i.zero, i.size, i.bytes)) = some (some (.string .empty), 1, 16) := by kernel_rfl
theorem infoArr : (Tryz.prog.info? 76).map (fun i => (i.zero, i.size, i.bytes)) = some (some (.agg #[.string .empty, .int .i64 0]), 2, 24) := by kernel_rfl
def strCells' (l : List Tx) : List Value := l.map fun s => .string (strO s)
def arrCells (l : List (Tx × Nat)) : List Value := l.flatMap fun p => [.string (strO p.1), .int .i64 (p.2 : Int)]
theorem strCells_snoc (l : List Tx) (s : Tx) : strCells' (l ++ [s]) = strCells' l ++ [.string (strO s)] := by simp [strCells']
theorem arrCells_snoc (l : List (Tx × Nat)) (p : Tx × Nat) : arrCells (l ++ [p]) = arrCells l ++ [.string (strO p.1), .int .i64 (p.2 : Int)] := by simp [arrCells]
def GlAt (w : World) (b : Nat) (g : Gl) (v : Value) : Prop := ∃ vc va, v = .agg #[vc, va] ∧ w.ownsRow (b + 1) 9 1 vc g.cells.length (strCells' g.cells) ∧ w.ownsRow (b + 1) 76 2 va g.arrays.length (arrCells g.arrays)
theorem own_other {w w' : World} {base base' : Nat} {T U : TypeId} {sz sz' n m : Nat} {v u : Value} {xs ys : List Value} {S : List Nat} (h : w.ownsRow base T sz v n xs) (h2 : w.ownsRow base' U sz' u m ys) (hTU : T ≠ U) (hk : Keeps S w w') (hS : ∀ y ∈ S, u.ownBlock = some y) : w'.ownsRow base T sz v n xs :=
 owned_keep h hk (fun g hg hm => by
  obtain ⟨_, c1, h3⟩ := rowOf h hg
  obtain ⟨_, c2, h4⟩ := rowOf h2 (hS g hm)
  rw [h3] at h4
  injection h4 with h4
  injection h4 with _ h4
  exact hTU h4)
theorem givesP_append {K : Value → World → Prop} {Qp : List PanicEntry → World → Prop} {a : Act} {o : Oper} {w : World} {s x : Operand} {St : TypeId}
 (ho : o.op = .call { callee := .builtin .append, args := #[s, x], argTypes := #[St, St] }) (h : ∃ v' w', (Builtin.append_ #[St, St] o.type #[a.eval s, a.eval x]).run Tryz.prog w = .ok v' w' ∧ K v' w') : RegP.GivesP Tryz.prog K Qp ((execOp a.eval o).run Tryz.prog w) := by
 obtain ⟨v', w', hr, hk⟩ := h
 unfold execOp
 simp only [ho, resolve, invoke, builtin, Sem.run_bind, Sem.run_pure, Result.andThen_ok, List.map_toArray, List.map_cons, List.map_nil, hr]
 exact hk
structure CR (w : World) (b n X0 X1 : Nat) (g : Gl) (vc va : Value) (r : List Tok) (rr : Px.R Tx) (L : Nat → Bool) (vs : Nat → Value) (w' : World) : Prop where
 keep : Keeps [b] w w'
 c7 : L 7 = true → L 6 = true
 c8 : L 8 = true → L 7 = true
 c10 : L 10 = true → L 8 = true
 c81 : L 8 = true → L 1 = true
 p0 : L 6 = false → PAt w' b n r 0 0
 p1 : L 6 = true → ∃ s r2, rr = .ok s r2 ∧ vs 6 = .string (strO s) ∧ PAt w' b n r2 0 0
 s7 : L 7 = true → ∃ y, vs 7 = .slice (some ⟨y, 0, none⟩) 1 1 ∧ (L 8 = false → w'.heap[y]? = some (.cells #[vs 6] 9 (0, 0)))
 s8o : L 8 = false → w'.ownsRow w.heap.size 9 1 vc g.cells.length (strCells' g.cells)
 s8 : L 8 = true → w'.ownsRow w.heap.size 9 1 (vs 8) (g.cells.length + 1) (strCells' g.cells ++ [vs 6])
 arr : w'.ownsRow w.heap.size 76 2 va g.arrays.length (arrCells g.arrays)
 x0 : w'.heap[X0]? = some (.cells #[.slice none 0 0, .slice none 0 0] 35 (0, 0))
 x1 : L 10 = false → w'.heap[X1]? = some (.cells #[vc, va] 35 (0, 0))
 x2 : L 10 = true → w'.heap[X1]? = some (.cells #[vs 8, va] 35 (0, 0))
theorem CR.lay {w : World} {b n X0 X1 : Nat} {g : Gl} {vc va : Value} {r : List Tok} {rr : Px.R Tx} {L : Nat → Bool} {vs : Nat → Value} {w' : World} (h : CR w b n X0 X1 g vc va r rr L vs w') {i : Nat} {v : Value} (hi : i ≠ 6 ∧ i ≠ 7 ∧ i ≠ 8 ∧ i ≠ 10) : CR w b n X0 X1 g vc va r rr (Reg.lay L i) (Reg.upd vs i v) w' := by
 obtain ⟨h6, h7, h8, h10⟩ := hi
 have l6 : Reg.lay L i 6 = L 6 := lay_ne h6
 have l7 : Reg.lay L i 7 = L 7 := lay_ne h7
 have l8 : Reg.lay L i 8 = L 8 := lay_ne h8
 have l10 : Reg.lay L i 10 = L 10 := lay_ne h10
 have u6 : Reg.upd vs i v 6 = vs 6 := upd_ne h6
 have u7 : Reg.upd vs i v 7 = vs 7 := upd_ne h7
 have u8 : Reg.upd vs i v 8 = vs 8 := upd_ne h8
 constructor <;> try simp only [l6, l7, l8, l10, u6, u7, u8]
 · exact h.keep
 · exact h.c7
 · exact h.c8
 · exact h.c10
 · intro hh; unfold Reg.lay; rw [h.c81 hh]; rfl
 · exact h.p0
 · exact h.p1
 · exact h.s7
 · exact h.s8o
 · exact h.s8
 · exact h.arr
 · exact h.x0
 · exact h.x1
 · exact h.x2
theorem noUp {a b : Bool} (h : a = true → b = true) (hb : b = false) : a = false := by
 cases a with
 | false => rfl
 | true => rw [hb] at h; exact absurd (h rfl) (by decide)
structure AR (w : World) (b n X0 X1 : Nat) (g : Gl) (vc va : Value) (r : List Tok) (rr : Px.R Tx) (L : Nat → Bool) (vs : Nat → Value) (w' : World) : Prop where
 keep : Keeps [b] w w'
 c8 : L 8 = true → L 6 = true
 c9 : L 9 = true → L 8 = true
 c10 : L 10 = true → L 9 = true
 c11 : L 11 = true → L 10 = true
 c13 : L 13 = true → L 11 = true
 c111 : L 11 = true → L 1 = true
 p0 : L 6 = false → PAt w' b n r 0 0
 p1 : L 6 = true → ∃ s r2, rr = .ok s r2 ∧ vs 6 = .string (strO s) ∧ (L 8 = false → PAt w' b n r2 0 0) ∧ (L 8 = true → ∃ m r3, Px.lenR r2 = .ok m r3 ∧ vs 8 = .int .i64 (m : Int) ∧ PAt w' b n r3 0 0)
 s9 : L 9 = true → vs 9 = .agg #[vs 6, vs 8]
 s10 : L 10 = true → ∃ y, vs 10 = .slice (some ⟨y, 0, none⟩) 1 1 ∧ (L 11 = false → w'.heap[y]? = some (.cells #[vs 6, vs 8] 76 (0, 0)))
 s11o : L 11 = false → w'.ownsRow w.heap.size 76 2 va g.arrays.length (arrCells g.arrays)
 s11 : L 11 = true → w'.ownsRow w.heap.size 76 2 (vs 11) (g.arrays.length + 1) (arrCells g.arrays ++ [vs 6, vs 8])
 cel : w'.ownsRow w.heap.size 9 1 vc g.cells.length (strCells' g.cells)
 x0 : w'.heap[X0]? = some (.cells #[.slice none 0 0, .slice none 0 0] 35 (0, 0))
 x1 : L 13 = false → w'.heap[X1]? = some (.cells #[vc, va] 35 (0, 0))
 x2 : L 13 = true → w'.heap[X1]? = some (.cells #[vc, vs 11] 35 (0, 0))
theorem AR.lay {w : World} {b n X0 X1 : Nat} {g : Gl} {vc va : Value} {r : List Tok} {rr : Px.R Tx} {L : Nat → Bool} {vs : Nat → Value} {w' : World} (h : AR w b n X0 X1 g vc va r rr L vs w') {i : Nat} {v : Value} (hi : i ≠ 6 ∧ i ≠ 8 ∧ i ≠ 9 ∧ i ≠ 10 ∧ i ≠ 11 ∧ i ≠ 13) : AR w b n X0 X1 g vc va r rr (Reg.lay L i) (Reg.upd vs i v) w' := by
 obtain ⟨h6, h8, h9, h10, h11, h13⟩ := hi
 have l6 : Reg.lay L i 6 = L 6 := lay_ne h6
 have l8 : Reg.lay L i 8 = L 8 := lay_ne h8
 have l9 : Reg.lay L i 9 = L 9 := lay_ne h9
 have l10 : Reg.lay L i 10 = L 10 := lay_ne h10
 have l11 : Reg.lay L i 11 = L 11 := lay_ne h11
 have l13 : Reg.lay L i 13 = L 13 := lay_ne h13
 have u6 : Reg.upd vs i v 6 = vs 6 := upd_ne h6
 have u8 : Reg.upd vs i v 8 = vs 8 := upd_ne h8
 have u9 : Reg.upd vs i v 9 = vs 9 := upd_ne h9
 have u10 : Reg.upd vs i v 10 = vs 10 := upd_ne h10
 have u11 : Reg.upd vs i v 11 = vs 11 := upd_ne h11
 constructor <;> try simp only [l6, l8, l9, l10, l11, l13, u6, u8, u9, u10, u11]
 · exact h.keep
 · exact h.c8
 · exact h.c9
 · exact h.c10
 · exact h.c11
 · exact h.c13
 · intro hh; unfold Reg.lay; rw [h.c111 hh]; rfl
 · exact h.p0
 · exact h.p1
 · exact h.s9
 · exact h.s10
 · exact h.s11o
 · exact h.s11
 · exact h.cel
 · exact h.x0
 · exact h.x1
 · exact h.x2
theorem lenR_len {ts : List Tok} {a : Nat} {r : List Tok} (h : Px.lenR ts = .ok a r) : r.length < ts.length := by
 obtain ⟨_, _, h1, h⟩ := Px.bind_inv h
 obtain ⟨_, _, h2, h⟩ := Px.bind_inv h
 obtain ⟨_, _, h3, h⟩ := Px.bind_inv h
 have := Px.passR_len (by simp) h1
 have := Px.passR_len (by simp) h3
 injection h with _ h; subst h
 split at h2
 ·
  split at h2
  · cases h2
  ·
   split at h2
   · cases h2
   ·
    injection h2 with _ h2; subst h2
    simp at *; omega
 · cases h2
structure GI (w : World) (b n X0 X1 : Nat) (g : Gl) (r : List Tok) (wr : World) : Prop where
 keep : Keeps [b] w wr
 pa : PAt wr b n r 0 0
 x0 : wr.heap[X0]? = some (.cells #[.slice none 0 0, .slice none 0 0] 35 (0, 0))
 rows : ∃ vc va, wr.heap[X1]? = some (.cells #[vc, va] 35 (0, 0)) ∧ wr.ownsRow w.heap.size 9 1 vc g.cells.length (strCells' g.cells) ∧ wr.ownsRow w.heap.size 76 2 va g.arrays.length (arrCells g.arrays)
theorem globals_any (w : World) (b n : Nat) (ts : List Tok) (f : Nat) (h : PAt w b n ts 0 0) (hf : ts.length + 1 ≤ f) :
 Calls Tryz.prog 44 #[pp b] w (RP GlAt (fun _ => 0) w b n 0 (Px.globL f ⟨[], []⟩ ts)) := by
 obtain ⟨R, hR⟩ : ∃ R, R = Px.globL f ⟨[], []⟩ ts := ⟨_, rfl⟩
 rw [← hR]
 have HR := Hd hR
 have HF := Hd hf
 have HBL := Hd h.lt
 have hk0 := ((Keeps.refl [] w).alloc (.cells #[.slice none 0 0, .slice none 0 0] 35)).alloc (.cells #[.slice none 0 0, .slice none 0 0] 35)
 have HGI := Hd (show GI w b n w.heap.size (w.heap.size + 1) ⟨[], []⟩ ts ((w.alloc (.cells #[.slice none 0 0, .slice none 0 0] 35)).alloc (.cells #[.slice none 0 0, .slice none 0 0] 35)) from ⟨hk0.mono (by simp), h.keep hk0, block_keep (heap_alloc_new w _) ((Keeps.refl [] _).alloc _) (by simp), _, _, by have := heap_alloc_new (w.alloc (.cells #[.slice none 0 0, .slice none 0 0] 35)) (.cells #[.slice none 0 0, .slice none 0 0] 35); simpa using this, World.ownsRow_nil _ _ _ _, World.ownsRow_nil _ _ _ _⟩)
 have HTL := Hd h.1.len
 obtain ⟨iS, hS, hS0, hS1, hS2⟩ := info_parts infoStr
 obtain ⟨iP, hP, hP0, hP1, hP2⟩ := info_parts infoArr
 clear hR hf h hk0
 go_enter Tryz.func44, Tryz.ntmps44
 go_wp2_with fail
 obtain ⟨X0, hX0⟩ : ∃ x, x = w.heap.size := ⟨_, rfl⟩
 obtain ⟨X1, hX1⟩ : ∃ x, x = X0 + 1 := ⟨_, rfl⟩
 have hgi := HGI.out
 rw [← hX0, ← hX1] at hgi
 have HGI := Hd hgi
 have HX := Hd (And.intro hX0 hX1)
 simp only [← hX0, ← hX1]
 clear hgi hX0 hX1
 go_loopw [] (fun wr => ∃ (k : Nat) (g : Gl) (r : List Tok), r.length + 1 ≤ k ∧ g.cells.length + g.arrays.length + r.length ≤ 5000 ∧ GI w b n X0 X1 g r wr ∧ Px.globL k g r = R) (fun wr => leftOf wr b)
 case atStart => exact ⟨f, ⟨[], []⟩, ts, HF.out, by have := HTL.out; simpa using this, HGI.out, HR.out.symm⟩
 case round =>
  obtain ⟨k, g, r, hk, hl, hgi, hd⟩ := hrel
  match k, hk, hd with
  | k + 1, hk, hd =>
  obtain ⟨hkeep, hpa, hx0, vc, va, hx1, hrc, hra⟩ := hgi
  obtain ⟨A1, k1, rfl⟩ := row_slice hrc
  obtain ⟨A2, k2, rfl⟩ := row_slice hra
  have HKEEP := Hd hkeep
  have HPA := Hd hpa
  have HX0 := Hd hx0
  have HX1 := Hd hx1
  have HRC := Hd hrc
  have HRA := Hd hra
  have HKK := Hd hk
  have HLL := Hd hl
  obtain ⟨nc, hnc⟩ : ∃ x, x = g.cells.length := ⟨_, rfl⟩
  obtain ⟨na, hna⟩ : ∃ x, x = g.arrays.length := ⟨_, rfl⟩
  rw [← hnc] at hx1
  rw [← hna] at hx1
  have HNN := Hd (And.intro hnc hna)
  obtain ⟨m, hm⟩ : ∃ m, m = nc + na := ⟨_, rfl⟩
  have hm5 : m ≤ 5000 := by omega
  have hadd : ((nc : Nat) : Int) + ((na : Nat) : Int) = (m : Int) := by omega
  have HM := Hd hm
  obtain ⟨c0, f0⟩ := rowi hx1 0
  obtain ⟨c1, f1⟩ := rowi hx1 1
  have hleft : ∃ A' cap', wr.cell? ⟨b, 0, none⟩ = some (.slice A' r.length cap') := by
   obtain ⟨_, A', cap', g', hb', _⟩ := hpa
   have c0 := row_cell hb' 0
   simp only [List.getElem?_toArray, List.getElem?_cons_zero] at c0
   exact ⟨A', cap', c0⟩
  obtain ⟨A', cap', hcl⟩ := hleft
  clear hkeep hpa hx0 hrc hra hx1 hm hk hl hnc hna
  cases r with
  | nil =>
   simp only [List.length_nil] at hcl
   unfold Px.globL at hd
   have HD := Hd hd
   have hx0 := HX0.out
   obtain ⟨d0, e0⟩ := rowi hx0 0
   obtain ⟨d1, e1⟩ := rowi hx0 1
   have n01 : X0 ≠ X1 := by have := HX.out.2; omega
   have n10 : X1 ≠ X0 := fun h => n01 h.symm
   clear hd hx0
   go_wp2_with fail
   refine bodyPost_ret (v := .agg #[.slice A1 nc k1, .slice A2 na k2]) (by simp [results, Tryz.results44, go_sem, c0, c1, d0, d1]) rfl ?_
   refine setsEnd (S := [X0]) (w := wr) ?_ ?_
   ·
    repeat (refine Keeps.setCell ?_ (by simp) _)
    exact Keeps.refl _ _
   intro W hkw
   have hx := HX.out
   have hbl := HBL.out
   rw [← HD.out]
   have h1 := HRC.out
   have h2 := HRA.out
   rw [← HNN.out.1] at h1
   rw [← HNN.out.2] at h2
   have hn1 : ∀ y ∈ [X0], y ≤ b ∨ NotT wr y 9 := fun y hy => .inr (by
    obtain rfl : y = X0 := by simpa using hy
    exact NotT.of HX0.out (by decide))
   have hn2 : ∀ y ∈ [X0], y ≤ b ∨ NotT wr y 76 := fun y hy => .inr (by
    obtain rfl : y = X0 := by simpa using hy
    exact NotT.of HX0.out (by decide))
   refine ⟨_, rfl, ⟨_, _, rfl, ?_, ?_⟩, HPA.out.keepHi hkw (by simp; omega), HKEEP.out.hi hkw (by simp; omega)⟩
   ·
    rw [← HNN.out.1]
    exact owned_mono (row_keepT h1 (by omega) hkw hn1) (by omega)
   ·
    rw [← HNN.out.2]
    exact owned_mono (row_keepT h2 (by omega) hkw hn2) (by omega)
  | cons t r1 =>
   obtain ⟨len, hlen⟩ : ∃ x, x = (t :: r1).length := ⟨_, rfl⟩
   have hlen0 : 0 < len := by rw [hlen]; simp
   rw [← hlen] at hcl
   have HLEN := Hd hlen
   clear hlen
   unfold Px.globL at hd
   by_cases hs : Px.sees (t :: r1) [99, 101, 108, 108] = true
   ·
    simp only [hs, if_true, List.tail_cons] at hd
    unfold Px.want at hd
    rw [← HNN.out.1, ← HNN.out.2, ← HM.out] at hd
    have HPY := Hd (passes_yes wr b n 0 0 (t :: r1) HPA.out [99, 101, 108, 108] (by simp) hs)
    have HDC := Hd (fun w' (h' : PAt w' b n r1 0 0) => decl_rp w' b n 0 0 r1 h' m 20 (by omega) (by omega))
    have hlen := fun aa qq (h : Px.declR m 20 r1 = .ok aa qq) => Px.declR_len h
    obtain ⟨rr, hrr⟩ : ∃ x, x = Px.declR m 20 r1 := ⟨_, rfl⟩
    rw [← hrr] at HDC hlen hd
    have HD := Hd hd
    have HLD := Hd hlen
    clear hs hd hlen hrr
    go_wp2_with fail
    refine (HPY.out).mono ?_
    rintro e w2 ⟨rfl, h1, h2⟩
    have hbl := HBL.out
    have hx := HX.out
    have HP2 := Hd h1
    have HK2 := zV HKEEP h2
    have HX02 := Hd (block_keep HX0.out h2 (by simp; omega))
    have HX12 := Hd (block_keep HX1.out h2 (by simp; omega))
    have HRC2 := Hd (owned_keep HRC.out h2 (fun g hg hm => by have := (rowOf HRC.out hg).1; simp at hm; omega))
    have HRA2 := Hd (owned_keep HRA.out h2 (fun g hg hm => by have := (rowOf HRA.out hg).1; simp at hm; omega))
    have hrow := HX12.out
    obtain ⟨c0, f0⟩ := rowi hrow 0
    obtain ⟨c1, f1⟩ := rowi hrow 1
    clear h1 h2 hrow hbl hx
    go_wp2_with fail
    refine RegP.wp_region_free (fun c w' => ∃ z r, R = .err z r ∧ c = died (z : Int) ∧ (∃ o' k', PAt w' b n r o' k') ∧ Keeps [b] w w') (CR w b n X0 X1 g (.slice A1 g.cells.length k1) (.slice A2 g.arrays.length k2) r1 rr) (fun _ _ => True) (A := ?A)
     [Reg.Is (.pointer (some ⟨X1, 0, none⟩)), Reg.Is (.slice A1 g.cells.length k1), Reg.Is (pp b), Reg.Is (pp b), Reg.Is (pp b), Reg.Is (.int .i64 (m : Int)), AnyF, AnyF, AnyF, Reg.Is (.pointer (some ⟨X1, 0, none⟩)), AnyF]
     ?hQ (by kernel_rfl) (by kernel_rfl) (by kernel_rfl) ?hA ?hC ?ho ?hlast ?hend
    case hQ =>
     intro a c w' hb hq
     obtain ⟨z, r, q1, q2, q3, q4⟩ := hq
     refine And.intro hb ?_
     rw [q1, q2]
     exact ⟨rfl, q3, q4⟩
    case hA => intro vs; simp only [Reg.fill, if_true, Nat.zero_add, Nat.reduceAdd, Act.put, List.setIfInBounds_toArray, List.set_cons_succ, List.set_cons_zero]; exact rfl
    case hC => exact fun vs => ⟨HK2.out.drew, fun hl => by simp at hl, fun hl => by simp at hl, fun hl => by simp at hl, fun hl => by simp at hl, fun _ => HP2.out.keep ((Keeps.refl [] _).drew), fun hl => by simp at hl, fun hl => by simp at hl, fun _ => HRC2.out, fun hl => by simp at hl, HRA2.out, HX02.out, fun _ => HX12.out, fun hl => by simp at hl⟩
    case hlast => repeat (first | exact trivial | refine ⟨fun _ _ _ h _ => h, ?_⟩)
    case ho =>
     repeat' apply And.intro
     all_goals
      first
       | exact trivial
       | (
        intro Ls vs w' hC hL hd ha K hK
        try simp only [Reg.Deps, Reg.at_, List.getD_cons_zero, List.getD_cons_succ, Region.binds, true_implies, Reg.Is, and_true, AnyF, true_and] at hd
        try simp only [Reg.wantedV, if_true]
        first
         | refine givesP_append rfl ?_
         | (
          try go_simp
          try simp only [RegP.gives_value, RegP.gives_skip, RegP.gives_enter])
        first
         | exact hK _ _ (hC.lay (by decide)) trivial rfl
         | exact hK _ _ (hC.lay (by decide)) trivial trivial
         | skip)
     ·
      have h10 : Ls 10 = false := by
       cases h : Ls 10 with
       | false => rfl
       | true => have := hC.c81 (hC.c10 h); rw [show Ls 1 = false from hL] at this; cases this
      have hr := hC.x1 h10
      have c0 := row_cell hr 0
      simp only [List.getElem?_toArray, List.getElem?_cons_zero] at c0
      simp only [c0]
      go_simp
      try simp only [RegP.gives_value]
      exact hK _ _ (hC.lay (by decide)) trivial rfl
     ·
      have hL' : Ls 6 = false := hL
      have h7 : Ls 7 = false := by
       cases h : Ls 7 with
       | false => rfl
       | true => have := hC.c7 h; rw [hL'] at this; cases this
      have h8 : Ls 8 = false := by
       cases h : Ls 8 with
       | false => rfl
       | true => have := hC.c8 h; rw [h7] at this; cases this
      have h10 : Ls 10 = false := by
       cases h : Ls 10 with
       | false => rfl
       | true => have := hC.c10 h; rw [h8] at this; cases this
      have hbl := HBL.out
      have hx := HX.out
      refine (HDC.out _ (hC.p0 hL')).mono ?_
      intro e w'' hr
      cases rr with
      | err z r =>
       obtain ⟨rfl, h4, h5⟩ := hr
       exact .inr ⟨_, rfl, z, r, by rw [← HD.out]; rfl, rfl, h4, hC.keep.trans h5 (fun _ h _ => h)⟩
      | ok s r2 =>
       obtain ⟨_, rfl, rfl, h4, h5⟩ := hr
       have hk : ∀ {T : TypeId} {sz n : Nat} {v : Value} {xs : List Value}, w'.ownsRow w.heap.size T sz v n xs → w''.ownsRow w.heap.size T sz v n xs := fun h => owned_keep h h5 (fun g hg hm => by have := (rowOf h hg).1; simp at hm; omega)
       refine .inl ⟨_, rfl, hK _ _ ⟨hC.keep.trans h5 (fun _ h _ => h), fun h => lay_eq, ?_, ?_, ?_, ?_, ?_, ?_, ?_, ?_, hk hC.arr, block_keep hC.x0 h5 (by simp; omega), ?_, ?_⟩ trivial trivial⟩
       · intro h; simp [Reg.lay, h8] at h
       · intro h; simp [Reg.lay, h10] at h
       · intro h; simp [Reg.lay, h8] at h
       · intro h; simp [Reg.lay] at h
       · exact fun _ => ⟨s, r2, rfl, upd_eq, h4⟩
       · intro h; simp [Reg.lay, h7] at h
       · intro _; exact hk (hC.s8o h8)
       · intro h; simp [Reg.lay, h8] at h
       · intro _; exact block_keep (hC.x1 h10) h5 (by simp; omega)
       · intro h; simp [Reg.lay, h10] at h
     ·
      have hL' : Ls 7 = false := hL
      have h6 : Ls 6 = true := Reg.aw_get ha { on := 6, ground := Ground.data } (by simp) rfl
      have h8 : Ls 8 = false := by
       cases h : Ls 8 with
       | false => rfl
       | true => have := hC.c8 h; rw [hL'] at this; cases this
      have h10 : Ls 10 = false := by
       cases h : Ls 10 with
       | false => rfl
       | true => have := hC.c10 h; rw [h8] at this; cases this
      obtain ⟨s, r2, q1, q2, q3⟩ := hC.p1 h6
      rw [q2]
      go_simp
      try simp only [RegP.gives_value]
      have hk := (Keeps.refl [] w').alloc (.cells #[.string (strO s)] 9)
      refine hK _ _ ⟨hC.keep.alloc _, ?_, ?_, ?_, ?_, ?_, ?_, ?_, ?_, ?_, owned_keep hC.arr hk (by simp), block_keep hC.x0 hk (by simp), ?_, ?_⟩ trivial trivial
      · intro _; rw [show Reg.lay Ls 7 6 = Ls 6 from lay_ne (by decide)]; exact h6
      · intro h; simp [Reg.lay, h8] at h
      · intro h; simp [Reg.lay, h10] at h
      · intro h; simp [Reg.lay, h8] at h
      · intro h; simp [Reg.lay, h6] at h
      · exact fun _ => ⟨s, r2, q1, by rw [show Reg.upd vs 7 _ 6 = vs 6 from upd_ne (by decide)]; exact q2, q3.keep hk⟩
      · exact fun _ => ⟨w'.heap.size, upd_eq, fun _ => by rw [show Reg.upd vs 7 _ 6 = vs 6 from upd_ne (by decide), q2]; exact heap_alloc_new _ _⟩
      · intro _; exact owned_keep (hC.s8o h8) hk (by simp)
      · intro h; simp [Reg.lay, h8] at h
      · intro _; exact block_keep (hC.x1 h10) hk (by simp)
      · intro h; simp [Reg.lay, h10] at h
     ·
      have hL' : Ls 8 = false := hL
      have h7 : Ls 7 = true := Reg.aw_get ha { on := 7, ground := Ground.data } (by simp) rfl
      have h1 : Ls 1 = true := Reg.aw_get ha { on := 1, ground := Ground.data } (by simp) rfl
      have h6 : Ls 6 = true := hC.c7 h7
      have h10 : Ls 10 = false := by
       cases h : Ls 10 with
       | false => rfl
       | true => have := hC.c10 h; rw [hL'] at this; cases this
      obtain ⟨s, r2, q1, q2, q3⟩ := hC.p1 h6
      obtain ⟨y, y1, y2⟩ := hC.s7 h7
      have hrow := y2 hL'
      have hown := hC.s8o hL'
      have hbl := HBL.out
      have hx := HX.out
      have hgl : g.cells.length ≤ 5000 := by have := HLL.out; omega
      rw [q2] at hrow
      obtain ⟨v', w5, r0, r1', r2', r3, r4⟩ := run_append_own_at (P := Tryz.prog) w' w.heap.size 32 32 9 iS (.string .empty) 1 16 Tryz.underlying32 hS hS0 hS1 hS2 rfl (by decide) (.slice A1 g.cells.length k1) g.cells.length (strCells' g.cells) hown ⟨y, 0, none⟩ 1 1 [.string (strO s)] rfl (by
       intro j u hj
       rw [Addr.add_lit, Nat.zero_add, row_cell hrow]
       simpa using hj) (by intro u hu; simp at hu; subst hu; rfl) (by unfold maxLen; omega) (by omega) hC.keep.size
      have hk := Keeps.of_grown r2'
      have hob : ∀ z ∈ (Value.slice A1 g.cells.length k1).ownBlock.toList, w.heap.size ≤ z ∧ ∃ cur, w'.heap[z]? = some (.cells cur 9 (0, 0)) := fun z hz => rowOf hown (by simpa using hz)
      have hng : ∀ {X : Nat} {cs : Array Value} {T : TypeId}, w'.heap[X]? = some (.cells cs T (0, 0)) → T ≠ 9 → X ∉ (Value.slice A1 g.cells.length k1).ownBlock.toList := fun h hT hm => by
       obtain ⟨_, cur, h2⟩ := hob _ hm
       rw [h] at h2
       injection h2 with h2
       injection h2 with _ h2
       exact hT h2
      refine ⟨v', w5, ?_, hK _ _ ⟨hC.keep.hi hk (fun z hz => (hob z hz).1), ?_, ?_, ?_, ?_, ?_, ?_, ?_, ?_, ?_, own_other hC.arr hown (by decide) hk (fun z hz => by simpa using hz), block_keep hC.x0 hk (hng hC.x0 (by decide)), ?_, ?_⟩ trivial trivial⟩
      ·
       show (Builtin.append_ #[32, 32] 32 #[vs 1, vs 7]).run Tryz.prog w' = _
       rw [hd, y1]
       exact r0
      · intro _; rw [show Reg.lay Ls 8 6 = Ls 6 from lay_ne (by decide)]; exact h6
      · intro _; rw [show Reg.lay Ls 8 7 = Ls 7 from lay_ne (by decide)]; exact h7
      · intro h; simp [Reg.lay, h10] at h
      · intro _; rw [show Reg.lay Ls 8 1 = Ls 1 from lay_ne (by decide)]; exact h1
      · intro h; simp [Reg.lay, h6] at h
      · exact fun _ => ⟨s, r2, q1, by rw [show Reg.upd vs 8 _ 6 = vs 6 from upd_ne (by decide)]; exact q2, q3.keepHi hk (fun z hz => by have := (hob z hz).1; omega)⟩
      · exact fun _ => ⟨y, by rw [show Reg.upd vs 8 _ 7 = vs 7 from upd_ne (by decide)]; exact y1, fun h => by simp [Reg.lay] at h⟩
      · intro h; simp [Reg.lay] at h
      · intro _; rw [show Reg.upd vs 8 _ 8 = _ from upd_eq, show Reg.upd vs 8 _ 6 = vs 6 from upd_ne (by decide), q2]; exact r1'
      · intro _; exact block_keep (hC.x1 h10) hk (hng (hC.x1 h10) (by decide))
      · intro h; simp [Reg.lay, h10] at h
     ·
      have hL' : Ls 10 = false := hL
      have h8 : Ls 8 = true := Reg.aw_get ha { on := 8, ground := Ground.data } (by simp) rfl
      have h7 : Ls 7 = true := hC.c8 h8
      have h6 : Ls 6 = true := hC.c7 h7
      have hr8 := hC.s8 h8
      obtain ⟨A8, c8, hv8⟩ := row_slice hr8
      have hx1 := hC.x1 hL'
      have c0 := row_cell hx1 0
      have f0 := row_free hx1 0
      simp only [List.getElem?_toArray, List.getElem?_cons_zero] at c0
      rw [hv8]
      go_simp
      try simp only [RegP.gives_value, RegP.gives_skip]
      have hbl := HBL.out
      have hx := HX.out
      have hk := (Keeps.refl [X1] w').setCell (p := ⟨X1, 0, none⟩) (by simp) (.slice A8 (g.cells.length + 1) c8)
      obtain ⟨s, r2, q1, q2, q3⟩ := hC.p1 h6
      have hn1 : ∀ {T : TypeId}, T ≠ 35 → ∀ y ∈ [X1], y ≤ b ∨ NotT w' y T := fun hT y hy => .inr (by
       obtain rfl : y = X1 := by simpa using hy
       exact NotT.of hx1 (Ne.symm hT))
      refine hK _ _ ⟨hC.keep.hi hk (by simp; omega), ?_, ?_, ?_, ?_, ?_, ?_, ?_, ?_, ?_, row_keepT hC.arr (by omega) hk (hn1 (by decide)), block_keep hC.x0 hk (by simp; omega), ?_, ?_⟩ trivial trivial
      · intro _; rw [show Reg.lay Ls 10 6 = Ls 6 from lay_ne (by decide)]; exact h6
      · intro _; rw [show Reg.lay Ls 10 7 = Ls 7 from lay_ne (by decide)]; exact h7
      · intro _; rw [show Reg.lay Ls 10 8 = Ls 8 from lay_ne (by decide)]; exact h8
      · intro _; rw [show Reg.lay Ls 10 1 = Ls 1 from lay_ne (by decide)]; exact hC.c81 h8
      · intro h; simp [Reg.lay, h6] at h
      · exact fun _ => ⟨s, r2, q1, by rw [show Reg.upd vs 10 _ 6 = vs 6 from upd_ne (by decide)]; exact q2, q3.keepHi hk (by simp; omega)⟩
      ·
       intro _
       obtain ⟨y, y1, _⟩ := hC.s7 h7
       exact ⟨y, by rw [show Reg.upd vs 10 _ 7 = vs 7 from upd_ne (by decide)]; exact y1, fun h => by simp [Reg.lay, h8] at h⟩
      · intro h; simp [Reg.lay, h8] at h
      · intro _; rw [show Reg.upd vs 10 _ 8 = vs 8 from upd_ne (by decide), show Reg.upd vs 10 _ 6 = vs 6 from upd_ne (by decide)]; exact row_keepT hr8 (by omega) hk (hn1 (by decide))
      · intro h; simp [Reg.lay] at h
      · intro _; rw [show Reg.upd vs 10 _ 8 = vs 8 from upd_ne (by decide), hv8, row_set hx1]; rfl
    case hend =>
     intro vs w3 hC hall
     obtain ⟨s, r2, q1, q2, q3⟩ := hC.p1 rfl
     have hr8 := hC.s8 rfl
     have hx1 := hC.x2 rfl
     obtain ⟨A8, c8, hv8⟩ := row_slice hr8
     rw [hv8] at hr8 hx1
     rw [q2] at hr8
     have HK3 := Hd hC.keep
     have HP3 := Hd q3
     have HX03 := Hd hC.x0
     have HX13 := Hd hx1
     have HRC3 := Hd hr8
     have HRA3 := Hd hC.arr
     have HL3 := Hd (HLD.out s r2 q1)
     have hd := HD.out
     rw [q1] at hd
     simp only [Px.bind_ok] at hd
     have HPS := Hd (fun w' (h' : PAt w' b n r2 0 0) => pass_rp w' b n 0 0 r2 h' [59] (by simp))
     have hlen := fun aa qq (h : Px.passR [59] r2 = .ok aa qq) => Px.passR_len (by simp) h
     obtain ⟨rq, hrq⟩ : ∃ x, x = Px.passR [59] r2 := ⟨_, rfl⟩
     rw [← hrq] at HPS hlen hd
     have HD := Hd hd
     have HLQ := Hd hlen
     clear hC hall q1 q2 q3 hr8 hx1 hd hlen hrq
     rw [hv8]
     clear hv8
     go_wp2_with fail
     refine (HPS.out _ HP3.out).mono ?_
     intro e w4 hr
     cases rq with
     | err z r =>
      obtain ⟨rfl, H4, H5⟩ := zE hr HK3
      go_wp2
      rw [← HD.out]
      exact ⟨rfl, rfl, H4.out, H5.out⟩
     | ok u r3 =>
      obtain ⟨_, rfl, rfl, h4, h5⟩ := hr
      have hbl := HBL.out
      have hx := HX.out
      have hk : ∀ {T : TypeId} {sz n : Nat} {v : Value} {xs : List Value}, w3.ownsRow w.heap.size T sz v n xs → w4.ownsRow w.heap.size T sz v n xs := fun h => owned_keep h h5 (fun g hg hm => by have := (rowOf h hg).1; simp at hm; omega)
      have HGN := Hd (show GI w b n X0 X1 ⟨g.cells ++ [s], g.arrays⟩ r3 w4 from ⟨HK3.out.trans h5 (fun _ h _ => h), h4, block_keep HX03.out h5 (by simp; omega), _, _, block_keep HX13.out h5 (by simp; omega), by
       show w4.ownsRow w.heap.size 9 1 _ (g.cells ++ [s]).length (strCells' (g.cells ++ [s]))
       rw [strCells_snoc, List.length_append]
       exact hk HRC3.out, hk HRA3.out⟩)
      have hd := HD.out
      simp only [Px.bind_ok] at hd
      have HD := Hd hd
      have HL4 := Hd (HLQ.out u r3 rfl)
      clear h4 h5 hbl hx hk hd
      go_wp2_with fail
      go_roundw
      · exact ⟨k, ⟨g.cells ++ [s], g.arrays⟩, r3, by have := HL3.out; have := HL4.out; have := HKK.out; simp at this; omega, by have := HL3.out; have := HL4.out; have := HLL.out; simp at this ⊢; omega, HGN.out, HD.out⟩
      ·
       rw [HGN.out.pa.leftOf, HPA.out.leftOf]
       have := HL3.out; have := HL4.out; simp; omega
   ·
    have hs' : Px.sees (t :: r1) [99, 101, 108, 108] = false := by simpa using hs
    simp only [hs', Bool.false_eq_true, if_false] at hd
    unfold Px.want at hd
    rw [← HNN.out.1, ← HNN.out.2, ← HM.out] at hd
    have HPN := Hd (passes_no wr b n 0 0 (t :: r1) HPA.out [99, 101, 108, 108] hs')
    have HPY := Hd (pass_rp wr b n 0 0 (t :: r1) HPA.out [97, 114, 114, 97, 121] (by simp))
    have hlen := fun aa qq (h : Px.passR [97, 114, 114, 97, 121] (t :: r1) = .ok aa qq) => Px.passR_len (by simp) h
    obtain ⟨ra, hra⟩ : ∃ x, x = Px.passR [97, 114, 114, 97, 121] (t :: r1) := ⟨_, rfl⟩
    rw [← hra] at HPY hlen hd
    have HD := Hd hd
    have HLA := Hd hlen
    clear hs hs' hd hlen hra
    go_wp2_with fail
    refine (same (HPN.out)) ?_
    go_wp2_with fail
    refine (HPY.out).mono ?_
    intro e w2 hr
    cases ra with
    | err z r =>
     obtain ⟨rfl, H4, H5⟩ := zE hr HKEEP
     go_wp2
     rw [← HD.out]
     exact ⟨rfl, rfl, H4.out, H5.out⟩
    | ok u0 r0 =>
    obtain ⟨_, rfl, rfl, h1, h2⟩ := hr
    have HL0 := Hd (HLA.out u0 r0 rfl)
    have hd := HD.out
    simp only [Px.bind_ok] at hd
    have HDC := Hd (fun w' (h' : PAt w' b n r0 0 0) => decl_rp w' b n 0 0 r0 h' m 20 (by omega) (by omega))
    have hlen := fun aa qq (h : Px.declR m 20 r0 = .ok aa qq) => Px.declR_len h
    obtain ⟨rr, hrr⟩ : ∃ x, x = Px.declR m 20 r0 := ⟨_, rfl⟩
    rw [← hrr] at HDC hlen hd
    have HD := Hd hd
    have HLD := Hd hlen
    have hbl := HBL.out
    have hx := HX.out
    have HP2 := Hd h1
    have HK2 := zV HKEEP h2
    have HX02 := Hd (block_keep HX0.out h2 (by simp; omega))
    have HX12 := Hd (block_keep HX1.out h2 (by simp; omega))
    have HRC2 := Hd (owned_keep HRC.out h2 (fun g hg hm => by have := (rowOf HRC.out hg).1; simp at hm; omega))
    have HRA2 := Hd (owned_keep HRA.out h2 (fun g hg hm => by have := (rowOf HRA.out hg).1; simp at hm; omega))
    have hrow := HX12.out
    obtain ⟨c0, f0⟩ := rowi hrow 0
    obtain ⟨c1, f1⟩ := rowi hrow 1
    clear h1 h2 hrow hbl hx hd hlen hrr
    go_wp2_with fail
    refine RegP.wp_region_free (fun c w' => ∃ z r, R = .err z r ∧ c = died (z : Int) ∧ (∃ o' k', PAt w' b n r o' k') ∧ Keeps [b] w w') (AR w b n X0 X1 g (.slice A1 g.cells.length k1) (.slice A2 g.arrays.length k2) r0 rr) (fun _ _ => True) (A := ?B2)
     [Reg.Is (.pointer (some ⟨X1, 1, none⟩)), Reg.Is (.slice A2 g.arrays.length k2), Reg.Is (pp b), Reg.Is (pp b), Reg.Is (pp b), Reg.Is (.int .i64 (m : Int)), AnyF, Reg.Is (pp b), AnyF, AnyF, AnyF, AnyF, Reg.Is (.pointer (some ⟨X1, 1, none⟩)), AnyF]
     ?hQ2 (by kernel_rfl) (by kernel_rfl) (by kernel_rfl) ?hA2 ?hC2 ?ho2 ?hlast2 ?hend2
    case hQ2 =>
     intro a c w' hb hq
     obtain ⟨z, r, q1, q2, q3, q4⟩ := hq
     refine And.intro hb ?_
     rw [q1, q2]
     exact ⟨rfl, q3, q4⟩
    case hA2 => intro vs; simp only [Reg.fill, if_true, Nat.zero_add, Nat.reduceAdd, Act.put, List.setIfInBounds_toArray, List.set_cons_succ, List.set_cons_zero]; exact rfl
    case hC2 => exact fun vs => ⟨HK2.out.drew, fun hl => by simp at hl, fun hl => by simp at hl, fun hl => by simp at hl, fun hl => by simp at hl, fun hl => by simp at hl, fun hl => by simp at hl, fun _ => HP2.out.keep ((Keeps.refl [] _).drew), fun hl => by simp at hl, fun hl => by simp at hl, fun hl => by simp at hl, fun _ => HRA2.out, fun hl => by simp at hl, HRC2.out, HX02.out, fun _ => HX12.out, fun hl => by simp at hl⟩
    case hlast2 => repeat (first | exact trivial | refine ⟨fun _ _ _ h _ => h, ?_⟩)
    case ho2 =>
     repeat' apply And.intro
     all_goals
      first
       | exact trivial
       | (
        intro Ls vs w' hC hL hd ha K hK
        try simp only [Reg.Deps, Reg.at_, List.getD_cons_zero, List.getD_cons_succ, Region.binds, true_implies, Reg.Is, and_true, AnyF, true_and] at hd
        try simp only [Reg.wantedV, if_true]
        first
         | refine givesP_append rfl ?_
         | (
          try go_simp
          try simp only [RegP.gives_value, RegP.gives_skip, RegP.gives_enter])
        first
         | exact hK _ _ (hC.lay (by decide)) trivial rfl
         | exact hK _ _ (hC.lay (by decide)) trivial trivial
         | skip)
     ·
      have h11 : Ls 11 = false := noUp hC.c111 hL
      have h13 : Ls 13 = false := noUp hC.c13 h11
      have hr := hC.x1 h13
      have c1 := row_cell hr 1
      simp only [List.getElem?_toArray, List.getElem?_cons_zero, List.getElem?_cons_succ] at c1
      simp only [c1]
      go_simp
      try simp only [RegP.gives_value]
      exact hK _ _ (hC.lay (by decide)) trivial rfl
     ·
      have hL' : Ls 6 = false := hL
      have h8 : Ls 8 = false := noUp hC.c8 hL'
      have h9 : Ls 9 = false := noUp hC.c9 h8
      have h10 : Ls 10 = false := noUp hC.c10 h9
      have h11 : Ls 11 = false := noUp hC.c11 h10
      have h13 : Ls 13 = false := noUp hC.c13 h11
      have hbl := HBL.out
      have hx := HX.out
      refine (HDC.out _ (hC.p0 hL')).mono ?_
      intro e w'' hr
      cases rr with
      | err z r =>
       obtain ⟨rfl, h4, h5⟩ := hr
       exact .inr ⟨_, rfl, z, r, by rw [← HD.out]; rfl, rfl, h4, hC.keep.trans h5 (fun _ h _ => h)⟩
      | ok s r2 =>
       obtain ⟨_, rfl, rfl, h4, h5⟩ := hr
       have hk : ∀ {T : TypeId} {sz n : Nat} {v : Value} {xs : List Value}, w'.ownsRow w.heap.size T sz v n xs → w''.ownsRow w.heap.size T sz v n xs := fun h => owned_keep h h5 (fun g hg hm => by have := (rowOf h hg).1; simp at hm; omega)
       refine .inl ⟨_, rfl, hK _ _ ⟨hC.keep.trans h5 (fun _ h _ => h), fun h => lay_eq, ?_, ?_, ?_, ?_, ?_, ?_, ?_, ?_, ?_, ?_, ?_, hk hC.cel, block_keep hC.x0 h5 (by simp; omega), ?_, ?_⟩ trivial trivial⟩
       · intro h; simp [Reg.lay, h9] at h
       · intro h; simp [Reg.lay, h10] at h
       · intro h; simp [Reg.lay, h11] at h
       · intro h; simp [Reg.lay, h13] at h
       · intro h; simp [Reg.lay, h11] at h
       · intro h; simp [Reg.lay] at h
       · exact fun _ => ⟨s, r2, rfl, upd_eq, fun _ => h4, fun h => by simp [Reg.lay, h8] at h⟩
       · intro h; simp [Reg.lay, h9] at h
       · intro h; simp [Reg.lay, h10] at h
       · intro _; exact hk (hC.s11o h11)
       · intro h; simp [Reg.lay, h11] at h
       · intro _; exact block_keep (hC.x1 h13) h5 (by simp; omega)
       · intro h; simp [Reg.lay, h13] at h
     ·
      have hL' : Ls 8 = false := hL
      have h6 : Ls 6 = true := Reg.aw_get ha { on := 6, ground := Ground.chain } (by simp) rfl
      have h9 : Ls 9 = false := noUp hC.c9 hL'
      have h10 : Ls 10 = false := noUp hC.c10 h9
      have h11 : Ls 11 = false := noUp hC.c11 h10
      have h13 : Ls 13 = false := noUp hC.c13 h11
      have hbl := HBL.out
      have hx := HX.out
      obtain ⟨s, r2, q1, q2, q3, q4⟩ := hC.p1 h6
      have hRR : R = (Px.lenR r2).bind fun n r => (Px.passR [59] r).bind fun _ r => Px.globL k ⟨g.cells, g.arrays ++ [(s, n)]⟩ r := by rw [← HD.out, q1]; rfl
      refine (length_any w' b n 0 0 r2 (q3 hL')).mono ?_
      intro e w'' hr
      generalize hpp : Px.lenR r2 = rp at hr hRR
      cases rp with
      | err z r =>
       obtain ⟨rfl, h4, h5⟩ := hr
       exact .inr ⟨_, rfl, z, r, hRR, rfl, h4, hC.keep.trans h5 (fun _ h _ => h)⟩
      | ok mm r3 =>
       obtain ⟨_, rfl, rfl, h4, h5⟩ := hr
       have hk : ∀ {T : TypeId} {sz n : Nat} {v : Value} {xs : List Value}, w'.ownsRow w.heap.size T sz v n xs → w''.ownsRow w.heap.size T sz v n xs := fun h => owned_keep h h5 (fun g hg hm => by have := (rowOf h hg).1; simp at hm; omega)
       refine .inl ⟨_, rfl, hK _ _ ⟨hC.keep.trans h5 (fun _ h _ => h), ?_, ?_, ?_, ?_, ?_, ?_, ?_, ?_, ?_, ?_, ?_, ?_, hk hC.cel, block_keep hC.x0 h5 (by simp; omega), ?_, ?_⟩ trivial trivial⟩
       · intro _; rw [show Reg.lay Ls 8 6 = Ls 6 from lay_ne (by decide)]; exact h6
       · intro _; exact lay_eq
       · intro h; simp [Reg.lay, h10] at h
       · intro h; simp [Reg.lay, h11] at h
       · intro h; simp [Reg.lay, h13] at h
       · intro h; simp [Reg.lay, h11] at h
       · intro h; simp [Reg.lay, h6] at h
       · exact fun _ => ⟨s, r2, q1, by rw [show Reg.upd vs 8 _ 6 = vs 6 from upd_ne (by decide)]; exact q2, fun h => by simp [Reg.lay] at h, fun _ => ⟨mm, r3, hpp, upd_eq, h4⟩⟩
       · intro h; simp [Reg.lay, h9] at h
       · intro h; simp [Reg.lay, h10] at h
       · intro _; exact hk (hC.s11o h11)
       · intro h; simp [Reg.lay, h11] at h
       · intro _; exact block_keep (hC.x1 h13) h5 (by simp; omega)
       · intro h; simp [Reg.lay, h13] at h
     ·
      have hL' : Ls 9 = false := hL
      have h8 : Ls 8 = true := Reg.aw_get ha { on := 8, ground := Ground.data } (by simp) rfl
      have h6 : Ls 6 = true := hC.c8 h8
      have h10 : Ls 10 = false := noUp hC.c10 hL'
      have h11 : Ls 11 = false := noUp hC.c11 h10
      have h13 : Ls 13 = false := noUp hC.c13 h11
      obtain ⟨s, r2, q1, q2, q3, q4⟩ := hC.p1 h6
      obtain ⟨mm, r3, p1, p2, p3⟩ := q4 h8
      rw [q2, p2]
      go_simp
      try simp only [RegP.gives_value]
      refine hK _ _ ⟨hC.keep, ?_, ?_, ?_, ?_, ?_, ?_, ?_, ?_, ?_, ?_, ?_, ?_, hC.cel, hC.x0, ?_, ?_⟩ trivial trivial
      · intro _; rw [show Reg.lay Ls 9 6 = Ls 6 from lay_ne (by decide)]; exact h6
      · intro _; rw [show Reg.lay Ls 9 8 = Ls 8 from lay_ne (by decide)]; exact h8
      · intro _; exact lay_eq
      · intro h; simp [Reg.lay, h11] at h
      · intro h; simp [Reg.lay, h13] at h
      · intro h; simp [Reg.lay, h11] at h
      · intro h; simp [Reg.lay, h6] at h
      · exact fun _ => ⟨s, r2, q1, by rw [show Reg.upd vs 9 _ 6 = vs 6 from upd_ne (by decide)]; exact q2, fun h => by simp [Reg.lay, h8] at h, fun _ => ⟨mm, r3, p1, by rw [show Reg.upd vs 9 _ 8 = vs 8 from upd_ne (by decide)]; exact p2, p3⟩⟩
      · intro _; rw [show Reg.upd vs 9 _ 9 = _ from upd_eq, show Reg.upd vs 9 _ 6 = vs 6 from upd_ne (by decide), show Reg.upd vs 9 _ 8 = vs 8 from upd_ne (by decide), q2, p2]
      · intro h; simp [Reg.lay, h10] at h
      · intro _; exact hC.s11o h11
      · intro h; simp [Reg.lay, h11] at h
      · intro _; exact hC.x1 h13
      · intro h; simp [Reg.lay, h13] at h
     ·
      have hL' : Ls 10 = false := hL
      have h9 : Ls 9 = true := Reg.aw_get ha { on := 9, ground := Ground.data } (by simp) rfl
      have h8 : Ls 8 = true := hC.c9 h9
      have h6 : Ls 6 = true := hC.c8 h8
      have h11 : Ls 11 = false := noUp hC.c11 hL'
      have h13 : Ls 13 = false := noUp hC.c13 h11
      obtain ⟨s, r2, q1, q2, q3, q4⟩ := hC.p1 h6
      obtain ⟨mm, r3, p1, p2, p3⟩ := q4 h8
      have hv9 := hC.s9 h9
      rw [q2, p2] at hv9
      rw [hv9]
      go_simp
      try simp only [RegP.gives_value]
      have hk := (Keeps.refl [] w').alloc (.cells #[.string (strO s), .int .i64 (mm : Int)] 76)
      refine hK _ _ ⟨hC.keep.alloc _, ?_, ?_, ?_, ?_, ?_, ?_, ?_, ?_, ?_, ?_, ?_, ?_, owned_keep hC.cel hk (by simp), block_keep hC.x0 hk (by simp), ?_, ?_⟩ trivial trivial
      · intro _; rw [show Reg.lay Ls 10 6 = Ls 6 from lay_ne (by decide)]; exact h6
      · intro _; rw [show Reg.lay Ls 10 8 = Ls 8 from lay_ne (by decide)]; exact h8
      · intro _; rw [show Reg.lay Ls 10 9 = Ls 9 from lay_ne (by decide)]; exact h9
      · intro _; exact lay_eq
      · intro h; simp [Reg.lay, h13] at h
      · intro h; simp [Reg.lay, h11] at h
      · intro h; simp [Reg.lay, h6] at h
      · exact fun _ => ⟨s, r2, q1, by rw [show Reg.upd vs 10 _ 6 = vs 6 from upd_ne (by decide)]; exact q2, fun h => by simp [Reg.lay, h8] at h, fun _ => ⟨mm, r3, p1, by rw [show Reg.upd vs 10 _ 8 = vs 8 from upd_ne (by decide)]; exact p2, p3.keep hk⟩⟩
      · intro _; rw [show Reg.upd vs 10 _ 9 = vs 9 from upd_ne (by decide), show Reg.upd vs 10 _ 6 = vs 6 from upd_ne (by decide), show Reg.upd vs 10 _ 8 = vs 8 from upd_ne (by decide)]; exact hC.s9 h9
      · exact fun _ => ⟨w'.heap.size, upd_eq, fun _ => by rw [show Reg.upd vs 10 _ 6 = vs 6 from upd_ne (by decide), show Reg.upd vs 10 _ 8 = vs 8 from upd_ne (by decide), q2, p2]; exact heap_alloc_new _ _⟩
      · intro _; exact owned_keep (hC.s11o h11) hk (by simp)
      · intro h; simp [Reg.lay, h11] at h
      · intro _; exact block_keep (hC.x1 h13) hk (by simp)
      · intro h; simp [Reg.lay, h13] at h
     ·
      have hL' : Ls 11 = false := hL
      have h10 : Ls 10 = true := Reg.aw_get ha { on := 10, ground := Ground.data } (by simp) rfl
      have h1 : Ls 1 = true := Reg.aw_get ha { on := 1, ground := Ground.data } (by simp) rfl
      have h9 : Ls 9 = true := hC.c10 h10
      have h8 : Ls 8 = true := hC.c9 h9
      have h6 : Ls 6 = true := hC.c8 h8
      have h13 : Ls 13 = false := noUp hC.c13 hL'
      obtain ⟨s, r2, q1, q2, q3, q4⟩ := hC.p1 h6
      obtain ⟨mm, r3, p1, p2, p3⟩ := q4 h8
      obtain ⟨y, y1, y2⟩ := hC.s10 h10
      have hrow := y2 hL'
      have hown := hC.s11o hL'
      have hbl := HBL.out
      have hx := HX.out
      have hgl : g.arrays.length ≤ 5000 := by have := HLL.out; omega
      rw [q2, p2] at hrow
      obtain ⟨v', w5, z0, z1, z2, z3, z4⟩ := run_append_own_at (P := Tryz.prog) w' w.heap.size 33 33 76 iP (.agg #[.string .empty, .int .i64 0]) 2 24 Tryz.underlying33 hP hP0 hP1 hP2 rfl (by decide) (.slice A2 g.arrays.length k2) g.arrays.length (arrCells g.arrays) hown ⟨y, 0, none⟩ 1 1 [.string (strO s), .int .i64 (mm : Int)] rfl (by
       intro j u hj
       rw [Addr.add_lit, Nat.zero_add, row_cell hrow]
       simpa using hj) (by intro u hu; simp at hu; rcases hu with rfl | rfl <;> rfl) (by unfold maxLen; omega) (by omega) hC.keep.size
      have hk := Keeps.of_grown z2
      have hob : ∀ z ∈ (Value.slice A2 g.arrays.length k2).ownBlock.toList, w.heap.size ≤ z ∧ ∃ cur, w'.heap[z]? = some (.cells cur 76 (0, 0)) := fun z hz => rowOf hown (by simpa using hz)
      have hng : ∀ {X : Nat} {cs : Array Value} {T : TypeId}, w'.heap[X]? = some (.cells cs T (0, 0)) → T ≠ 76 → X ∉ (Value.slice A2 g.arrays.length k2).ownBlock.toList := fun h hT hm => by
       obtain ⟨_, cur, h2⟩ := hob _ hm
       rw [h] at h2
       injection h2 with h2
       injection h2 with _ h2
       exact hT h2
      refine ⟨v', w5, ?_, hK _ _ ⟨hC.keep.hi hk (fun z hz => (hob z hz).1), ?_, ?_, ?_, ?_, ?_, ?_, ?_, ?_, ?_, ?_, ?_, ?_, own_other hC.cel hown (by decide) hk (fun z hz => by simpa using hz), block_keep hC.x0 hk (hng hC.x0 (by decide)), ?_, ?_⟩ trivial trivial⟩
      ·
       show (Builtin.append_ #[33, 33] 33 #[vs 1, vs 10]).run Tryz.prog w' = _
       rw [hd, y1]
       exact z0
      · intro _; rw [show Reg.lay Ls 11 6 = Ls 6 from lay_ne (by decide)]; exact h6
      · intro _; rw [show Reg.lay Ls 11 8 = Ls 8 from lay_ne (by decide)]; exact h8
      · intro _; rw [show Reg.lay Ls 11 9 = Ls 9 from lay_ne (by decide)]; exact h9
      · intro _; rw [show Reg.lay Ls 11 10 = Ls 10 from lay_ne (by decide)]; exact h10
      · intro h; simp [Reg.lay, h13] at h
      · intro _; rw [show Reg.lay Ls 11 1 = Ls 1 from lay_ne (by decide)]; exact h1
      · intro h; simp [Reg.lay, h6] at h
      · exact fun _ => ⟨s, r2, q1, by rw [show Reg.upd vs 11 _ 6 = vs 6 from upd_ne (by decide)]; exact q2, fun h => by simp [Reg.lay, h8] at h, fun _ => ⟨mm, r3, p1, by rw [show Reg.upd vs 11 _ 8 = vs 8 from upd_ne (by decide)]; exact p2, p3.keepHi hk (fun z hz => by have := (hob z hz).1; omega)⟩⟩
      · intro _; rw [show Reg.upd vs 11 _ 9 = vs 9 from upd_ne (by decide), show Reg.upd vs 11 _ 6 = vs 6 from upd_ne (by decide), show Reg.upd vs 11 _ 8 = vs 8 from upd_ne (by decide)]; exact hC.s9 h9
      · exact fun _ => ⟨y, by rw [show Reg.upd vs 11 _ 10 = vs 10 from upd_ne (by decide)]; exact y1, fun h => by simp [Reg.lay] at h⟩
      · intro h; simp [Reg.lay] at h
      · intro _; rw [show Reg.upd vs 11 _ 11 = _ from upd_eq, show Reg.upd vs 11 _ 6 = vs 6 from upd_ne (by decide), show Reg.upd vs 11 _ 8 = vs 8 from upd_ne (by decide), q2, p2]; exact z1
      · intro _; exact block_keep (hC.x1 h13) hk (hng (hC.x1 h13) (by decide))
      · intro h; simp [Reg.lay, h13] at h
     ·
      have hL' : Ls 13 = false := hL
      have h11 : Ls 11 = true := Reg.aw_get ha { on := 11, ground := Ground.data } (by simp) rfl
      have h10 : Ls 10 = true := hC.c11 h11
      have h9 : Ls 9 = true := hC.c10 h10
      have h8 : Ls 8 = true := hC.c9 h9
      have h6 : Ls 6 = true := hC.c8 h8
      have hr8 := hC.s11 h11
      obtain ⟨A8, c8, hv8⟩ := row_slice hr8
      have hx1 := hC.x1 hL'
      obtain ⟨c1, f1⟩ := rowi hx1 1
      rw [hv8]
      go_simp
      try simp only [RegP.gives_value, RegP.gives_skip]
      have hbl := HBL.out
      have hx := HX.out
      have hk := (Keeps.refl [X1] w').setCell (p := ⟨X1, 1, none⟩) (by simp) (.slice A8 (g.arrays.length + 1) c8)
      obtain ⟨s, r2, q1, q2, q3, q4⟩ := hC.p1 h6
      obtain ⟨mm, r3, p1, p2, p3⟩ := q4 h8
      have hn1 : ∀ {T : TypeId}, T ≠ 35 → ∀ y ∈ [X1], y ≤ b ∨ NotT w' y T := fun hT y hy => .inr (by
       obtain rfl : y = X1 := by simpa using hy
       exact NotT.of hx1 (Ne.symm hT))
      refine hK _ _ ⟨hC.keep.hi hk (by simp; omega), ?_, ?_, ?_, ?_, ?_, ?_, ?_, ?_, ?_, ?_, ?_, ?_, row_keepT hC.cel (by omega) hk (hn1 (by decide)), block_keep hC.x0 hk (by simp; omega), ?_, ?_⟩ trivial trivial
      · intro _; rw [show Reg.lay Ls 13 6 = Ls 6 from lay_ne (by decide)]; exact h6
      · intro _; rw [show Reg.lay Ls 13 8 = Ls 8 from lay_ne (by decide)]; exact h8
      · intro _; rw [show Reg.lay Ls 13 9 = Ls 9 from lay_ne (by decide)]; exact h9
      · intro _; rw [show Reg.lay Ls 13 10 = Ls 10 from lay_ne (by decide)]; exact h10
      · intro _; rw [show Reg.lay Ls 13 11 = Ls 11 from lay_ne (by decide)]; exact h11
      · intro _; rw [show Reg.lay Ls 13 1 = Ls 1 from lay_ne (by decide)]; exact hC.c111 h11
      · intro h; simp [Reg.lay, h6] at h
      · exact fun _ => ⟨s, r2, q1, by rw [show Reg.upd vs 13 _ 6 = vs 6 from upd_ne (by decide)]; exact q2, fun h => by simp [Reg.lay, h8] at h, fun _ => ⟨mm, r3, p1, by rw [show Reg.upd vs 13 _ 8 = vs 8 from upd_ne (by decide)]; exact p2, p3.keepHi hk (by simp; omega)⟩⟩
      · intro _; rw [show Reg.upd vs 13 _ 9 = vs 9 from upd_ne (by decide), show Reg.upd vs 13 _ 6 = vs 6 from upd_ne (by decide), show Reg.upd vs 13 _ 8 = vs 8 from upd_ne (by decide)]; exact hC.s9 h9
      ·
       intro _
       obtain ⟨y, y1, _⟩ := hC.s10 h10
       exact ⟨y, by rw [show Reg.upd vs 13 _ 10 = vs 10 from upd_ne (by decide)]; exact y1, fun h => by simp [Reg.lay, h11] at h⟩
      · intro h; simp [Reg.lay, h11] at h
      · intro _; rw [show Reg.upd vs 13 _ 11 = vs 11 from upd_ne (by decide), show Reg.upd vs 13 _ 6 = vs 6 from upd_ne (by decide), show Reg.upd vs 13 _ 8 = vs 8 from upd_ne (by decide)]; exact row_keepT hr8 (by omega) hk (hn1 (by decide))
      · intro h; simp [Reg.lay] at h
      · intro _; rw [show Reg.upd vs 13 _ 11 = vs 11 from upd_ne (by decide), hv8, row_set hx1]; rfl
    case hend2 =>
     intro vs w3 hC hall
     obtain ⟨s, r2, q1, q2, -, q4⟩ := hC.p1 rfl
     obtain ⟨mm, r2b, p1, p2, p3⟩ := q4 rfl
     have hr8 := hC.s11 rfl
     have hx1 := hC.x2 rfl
     obtain ⟨A8, c8, hv8⟩ := row_slice hr8
     rw [hv8] at hr8 hx1
     rw [q2, p2] at hr8
     have HK3 := Hd hC.keep
     have HP3 := Hd p3
     have HX03 := Hd hC.x0
     have HX13 := Hd hx1
     have HRA3 := Hd hr8
     have HRC3 := Hd hC.cel
     have HL3 := Hd (HLD.out s r2 q1)
     have HL3b := Hd (lenR_len p1)
     have hd := HD.out
     rw [q1] at hd
     simp only [Px.bind_ok] at hd
     rw [p1] at hd
     simp only [Px.bind_ok] at hd
     have HPS := Hd (fun w' (h' : PAt w' b n r2b 0 0) => pass_rp w' b n 0 0 r2b h' [59] (by simp))
     have hlen := fun aa qq (h : Px.passR [59] r2b = .ok aa qq) => Px.passR_len (by simp) h
     obtain ⟨rq, hrq⟩ : ∃ x, x = Px.passR [59] r2b := ⟨_, rfl⟩
     rw [← hrq] at HPS hlen hd
     have HD := Hd hd
     have HLQ := Hd hlen
     clear hC hall q1 q2 q4 p1 p2 p3 hr8 hx1 hd hlen hrq
     rw [hv8]
     clear hv8
     go_wp2_with fail
     refine (HPS.out _ HP3.out).mono ?_
     intro e w4 hr
     cases rq with
     | err z r =>
      obtain ⟨rfl, H4, H5⟩ := zE hr HK3
      go_wp2
      rw [← HD.out]
      exact ⟨rfl, rfl, H4.out, H5.out⟩
     | ok u r3 =>
      obtain ⟨_, rfl, rfl, h4, h5⟩ := hr
      have hbl := HBL.out
      have hx := HX.out
      have hk : ∀ {T : TypeId} {sz n : Nat} {v : Value} {xs : List Value}, w3.ownsRow w.heap.size T sz v n xs → w4.ownsRow w.heap.size T sz v n xs := fun h => owned_keep h h5 (fun g hg hm => by have := (rowOf h hg).1; simp at hm; omega)
      have HGN := Hd (show GI w b n X0 X1 ⟨g.cells, g.arrays ++ [(s, mm)]⟩ r3 w4 from ⟨HK3.out.trans h5 (fun _ h _ => h), h4, block_keep HX03.out h5 (by simp; omega), _, _, block_keep HX13.out h5 (by simp; omega), hk HRC3.out, by
       show w4.ownsRow w.heap.size 76 2 _ (g.arrays ++ [(s, mm)]).length (arrCells (g.arrays ++ [(s, mm)]))
       rw [arrCells_snoc, List.length_append]
       exact hk HRA3.out⟩)
      have hd := HD.out
      simp only [Px.bind_ok] at hd
      have HD := Hd hd
      have HL4 := Hd (HLQ.out u r3 rfl)
      clear h4 h5 hbl hx hk hd
      go_wp2_with fail
      go_roundw
      · exact ⟨k, ⟨g.cells, g.arrays ++ [(s, mm)]⟩, r3, by have h8 := HL0.out; have := HL3.out; have := HL3b.out; have := HL4.out; have h9 := HKK.out; simp only [List.length_cons] at h8 h9; omega, by have h8 := HL0.out; have := HL3.out; have := HL3b.out; have := HL4.out; have h9 := HLL.out; simp only [List.length_cons, List.length_append, List.length_nil] at h8 h9 ⊢; omega, HGN.out, HD.out⟩
      ·
       rw [HGN.out.pa.leftOf, HPA.out.leftOf]
       have h8 := HL0.out; have := HL3.out; have := HL3b.out; have := HL4.out; simp only [List.length_cons] at h8 ⊢; omega
end
section
set_option maxHeartbeats 4000000
set_option maxRecDepth 100000
open Go.RowKit Go.Shelf
open Lx (Tok Tx)
open Px (Ex Cn Sm Vr Gl)
theorem GlAt.keepHi {w w' : World} {b : Nat} {p : Gl} {v : Value} {S : List Nat} (h : GlAt w b p v) (hk : Keeps S w w') (hS : ∀ y ∈ S, y ≤ b) : GlAt w' b p v := by
 obtain ⟨vc, va, h1, h2, h3⟩ := h
 exact ⟨vc, va, h1, owned_keep h2 hk (fun g hg hm => by have := (rowOf h2 hg).1; have := hS g hm; omega), owned_keep h3 hk (fun g hg hm => by have := (rowOf h3 hg).1; have := hS g hm; omega)⟩
theorem attempt_G (w : World) (l : Tx) (hl : l.length ≤ 5000) (he : ErrAt w) :
 Calls Tryz.prog 43 #[.string (strO l), .func (.func 44) #[] #[]] w (AttP GlAt (.agg #[.slice none 0 0, .slice none 0 0]) w (Px.globT l)) := by
 obtain ⟨GG, hgg⟩ : ∃ x, x = Px.globT l := ⟨_, rfl⟩
 rw [← hgg]
 have HGG := Hd hgg
 clear hgg
 have HT := Hd (fun w' (h : ErrAt w') => tokens_cap w' l hl h)
 have hmf := hmf0
 have HE := Hd he
 have HSL := Hd (strO_len l)
 obtain ⟨o, ho⟩ : ∃ o, o = Lx.toks l := ⟨_, rfl⟩
 rw [← ho] at HT
 have HO := Hd ho
 obtain ⟨s, hs⟩ : ∃ s, s = strO l := ⟨_, rfl⟩
 rw [← hs] at HT HSL ⊢
 have hsz3 : (((w.alloc (.cells #[.slice none 0 0, .slice none 0 0] 35)).alloc (.cells #[.int .i64 0] 3)).alloc (.cells #[.int .i64 0] 27)).heap.size = w.heap.size + 3 := by simp
 have HKA := Hd (show Keeps [] w (((w.alloc (.cells #[.slice none 0 0, .slice none 0 0] 35)).alloc (.cells #[.int .i64 0] 3)).alloc (.cells #[.int .i64 0] 27)) from (((Keeps.refl [] w).alloc _).alloc _).alloc _)
 have HB0 := Hd (show (((w.alloc (.cells #[.slice none 0 0, .slice none 0 0] 35)).alloc (.cells #[.int .i64 0] 3)).alloc (.cells #[.int .i64 0] 27)).heap[w.heap.size]? = some (.cells #[.slice none 0 0, .slice none 0 0] 35 (0, 0)) from block_keep (block_keep (heap_alloc_new w (.cells #[.slice none 0 0, .slice none 0 0] 35)) ((Keeps.refl [] _).alloc _) (by simp)) ((Keeps.refl [] _).alloc _) (by simp))
 have HB1 := Hd (show (((w.alloc (.cells #[.slice none 0 0, .slice none 0 0] 35)).alloc (.cells #[.int .i64 0] 3)).alloc (.cells #[.int .i64 0] 27)).heap[w.heap.size + 1]? = some (.cells #[.int .i64 0] 3 (0, 0)) from block_keep (by have := heap_alloc_new (w.alloc (.cells #[.slice none 0 0, .slice none 0 0] 35)) (.cells #[.int .i64 0] 3); simpa using this) ((Keeps.refl [] _).alloc _) (by simp))
 have HB2 := Hd (show (((w.alloc (.cells #[.slice none 0 0, .slice none 0 0] 35)).alloc (.cells #[.int .i64 0] 3)).alloc (.cells #[.int .i64 0] 27)).heap[w.heap.size + 2]? = some (.cells #[.int .i64 0] 27 (0, 0)) by have := heap_alloc_new ((w.alloc (.cells #[.slice none 0 0, .slice none 0 0] 35)).alloc (.cells #[.int .i64 0] 3)) (.cells #[.int .i64 0] 27); simpa using this)
 have HSZA := Hd hsz3
 clear he ho hs hsz3
 go_enter_defers Tryz.func43, Tryz.ntmps43
 go_wp2_with fail
 refine (HT.out _ (HE.out.keep HKA.out)).mono ?_
 rintro e w1 ⟨A, c, g, rfl, h1, h2, h3, h4, h5⟩
 have HCAP := Hd (And.intro h4 h5)
 have HTI := Hd h1
 have HTG := Hd h2
 have HB0 := Hd (block_keep HB0.out h3 (by simp))
 have HB1 := Hd (block_keep HB1.out h3 (by simp))
 have HB2 := Hd (block_keep HB2.out h3 (by simp))
 have HK1 := zV HKA h3
 have HSZ1 := Hd h3.size
 clear h1 h2 h3 h4 h5
 obtain ⟨X0, hX0⟩ : ∃ x, x = w.heap.size := ⟨_, rfl⟩
 rw [← hX0] at HB0 HB1 HB2
 obtain ⟨X1, hX1⟩ : ∃ x, x = X0 + 1 := ⟨_, rfl⟩
 obtain ⟨X2, hX2⟩ : ∃ x, x = X1 + 1 := ⟨_, rfl⟩
 have hx2 : X0 + 2 = X2 := by omega
 rw [← hX1] at HB1
 rw [hx2] at HB2
 have n01 : X0 ≠ X1 := by omega
 have n10 : X1 ≠ X0 := by omega
 have n02 : X0 ≠ X2 := by omega
 have n20 : X2 ≠ X0 := by omega
 have n12 : X1 ≠ X2 := by omega
 have n21 : X2 ≠ X1 := by omega
 have HX := Hd (And.intro hX0 (And.intro hX1 hX2))
 simp only [← hX0, ← hX1, ← hX2]
 clear hX0 hX1 hX2 hx2
 have hrow := HB0.out
 obtain ⟨c0_0, f0_0⟩ := rowi hrow 0
 obtain ⟨c0_1, f0_1⟩ := rowi hrow 1
 clear hrow
 have hrow := HB1.out
 have f1_0 := row_free hrow 0
 have c1_0 := row_cell hrow 0
 simp only [List.getElem?_toArray, List.getElem?_cons_zero] at c1_0
 clear hrow
 have hrow := HB2.out
 have f2_0 := row_free hrow 0
 have c2_0 := row_cell hrow 0
 simp only [List.getElem?_toArray, List.getElem?_cons_zero] at c2_0
 clear hrow
 by_cases hz : o.err = 0
 ·
  have hz1 : (((o.err : Nat) : Int) != 0) = false := by simp [hz]
  have hz2 : ((o.err : Nat) : Int) = 0 := by simp [hz]
  have hG : Px.globT l = Px.top l.length (Px.globL (o.toks.length + 1) ⟨[], []⟩ o.toks) := by unfold Px.globT; rw [if_pos (by rw [← HO.out]; exact hz), ← HO.out]
  have HG := Hd hG
  have hgood := toks_good l
  rw [← HO.out] at hgood
  have HGOOD := Hd hgood
  clear hz hG hgood
  obtain ⟨b, hb⟩ : ∃ b, b = w1.heap.size := ⟨_, rfl⟩
  have HBB := Hd hb
  obtain ⟨wa, hwa⟩ : ∃ x, x = ((w1.setCell ⟨X1, 0, none⟩ (.int .i64 ((o.pos : Nat) : Int))).setCell ⟨X2, 0, none⟩ (.int .i64 0)) := ⟨_, rfl⟩
  have HWA := Hd hwa
  have hlt0 := block_lt HB0.out
  have hlt1 := block_lt HB1.out
  have hlt2 := block_lt HB2.out
  have hka : Keeps [X1, X2] w1 wa := by
   rw [hwa]
   repeat (refine Keeps.setCell ?_ (by simp) _)
   exact Keeps.refl _ _
  have hsza : wa.heap.size = b := by rw [hwa, hb]; simp [World.setCell]
  have ha0 := block_keep HB0.out hka (by simp; omega)
  have ha1 : wa.heap[X1]? = some (.cells #[.int .i64 ((o.pos : Nat) : Int)] 3 (0, 0)) := by rw [hwa, set_other n12, row_set HB1.out]; rfl
  have ha2 : wa.heap[X2]? = some (.cells #[.int .i64 0] 27 (0, 0)) := by
   have h2' : (w1.setCell ⟨X1, 0, none⟩ (.int .i64 ((o.pos : Nat) : Int))).heap[X2]? = some (.cells #[.int .i64 0] 27 (0, 0)) := by rw [set_other n21]; exact HB2.out
   rw [hwa, row_set h2']; rfl
  have hg2 : o.toks ≠ [] → X2 < g := fun hne => by
   have h7 := HTG.out hne
   rw [HSZA.out] at h7
   have h8 := HX.out
   omega
  have hta : ToksIn wa g A o.toks := by
   by_cases hne : o.toks = []
   · exact .inl hne
   · exact HTI.out.keep hka (by have := hg2 hne; have h8 := HX.out; simp; omega)
  have hgb : ∃ g', ToksIn wa g' A o.toks ∧ g' < b := by
   by_cases hne : o.toks = []
   · exact ⟨X0, .inl hne, by omega⟩
   ·
    refine ⟨g, hta, ?_⟩
    rcases hta with h0 | ⟨off, _, hc⟩
    · exact absurd h0 hne
    ·
     have := World.block_lt_of_cell? wa _ (hc 0 (List.length_pos_iff.2 hne)).1
     simpa [hsza] using this
  obtain ⟨g', hta', hgb'⟩ := hgb
  obtain ⟨wd, hwd⟩ : ∃ x, x = (wa.alloc (.cells #[.slice A o.toks.length c, .int .i64 (s.size : Int), .int .i64 0, .int .i64 0] 133)).alloc (.cells #[.pointer (some ⟨b, 0, none⟩)] 129) := ⟨_, rfl⟩
  have hkd : Keeps [] wa wd := by rw [hwd]; exact ((Keeps.refl _ _).alloc _).alloc _
  have hrb : wd.heap[b]? = some (.cells #[.slice A o.toks.length c, .int .i64 (s.size : Int), .int .i64 0, .int .i64 0] 133 (0, 0)) := by
   rw [hwd]
   refine block_keep ?_ ((Keeps.refl [] _).alloc _) (by simp)
   have := heap_alloc_new wa (.cells #[.slice A o.toks.length c, .int .i64 (s.size : Int), .int .i64 0, .int .i64 0] 133)
   rw [hsza] at this
   exact this
  have hrq : wd.heap[b + 1]? = some (.cells #[pp b] 129 (0, 0)) := by
   rw [hwd]
   have := heap_alloc_new (wa.alloc (.cells #[.slice A o.toks.length c, .int .i64 (s.size : Int), .int .i64 0, .int .i64 0] 133)) (.cells #[.pointer (some ⟨b, 0, none⟩)] 129)
   have h8 : (wa.alloc (.cells #[.slice A o.toks.length c, .int .i64 (s.size : Int), .int .i64 0, .int .i64 0] 133)).heap.size = b + 1 := by simp [hsza]
   rw [h8] at this
   exact this
  have hpa : PAt wd b l.length o.toks 0 0 := ⟨HGOOD.out, A, c, g', by rw [hrb, HSL.out]; rfl, hta'.keep hkd (by simp), hgb', HCAP.out.1, HCAP.out.2⟩
  have HPA := Hd hpa
  have HD0 := Hd (block_keep ha0 hkd (by simp))
  have HD1 := Hd (block_keep ha1 hkd (by simp))
  have HD2 := Hd (block_keep ha2 hkd (by simp))
  have HDQ := Hd hrq
  have HKD := Hd (show Keeps [] w wd from by
   have h8 := HX.out
   have hk2 := HK1.out.hi hka (fun y hy => by simp at hy; omega)
   exact hk2.trans hkd (by simp))
  have HXB := Hd (show X0 < b ∧ X1 < b ∧ X2 < b from by rw [hb]; exact ⟨hlt0, hlt1, hlt2⟩)
  have HW := Hd (globals_any wd b l.length o.toks (o.toks.length + 1) HPA.out (Nat.le_refl _))
  have HWD := Hd hwd
  have hb' := hb.symm
  clear hwa hlt0 hlt1 hlt2 hka hsza ha0 ha1 ha2 hg2 hta hta' hgb' hkd hrb hrq hpa hwd hb
  obtain ⟨rr, hrr⟩ : ∃ x, x = Px.globL (o.toks.length + 1) ⟨[], []⟩ o.toks := ⟨_, rfl⟩
  rw [← hrr] at HW
  have hG := HG.out
  rw [← hrr] at hG
  have HG := Hd (HGG.out.trans hG)
  clear hrr hG hb'
  have e1 := HWD.out
  subst e1
  have e2 := HWA.out
  subst e2
  have e3 := HBB.out
  subst e3
  clear HWD HWA HBB
  go_wp2_with fail
  refine (HW.out).mono ?_
  intro e w2 hr
  cases rr with
  | err z r =>
   obtain ⟨rfl, ⟨o', k', h4⟩, h5⟩ := hr
   have H4 := Hd h4
   have hxb := HXB.out
   have HE0 := Hd (block_keep HD0.out h5 (by simp; omega))
   have HE1 := Hd (block_keep HD1.out h5 (by simp; omega))
   have HE2 := Hd (block_keep HD2.out h5 (by simp; omega))
   have HEQ := Hd (block_keep HDQ.out h5 (by simp))
   have HKE := Hd (HKD.out.hi h5 (fun y hy => by have := HX.out; simp at hy; omega))
   clear h4 h5 hxb
   go_wp2
   refine leaves_cons (f := 85) (args := #[.pointer (some ⟨w1.heap.size + 1, 0, none⟩), .pointer (some ⟨X1, 0, none⟩), .pointer (some ⟨X2, 0, none⟩)]) (by simp) (by simp [go_sem]) ?_
   unfold died
   have hxb := HXB.out
   refine (panicking_G w1.heap.size l.length _ _ X1 X2 (w1.heap.size + 1) (r) (z : Int) _ _ [] _ H4.out (by have := row_cell HEQ.out 0; simpa using this) HE1.out HE2.out n12 (by omega) (by omega)).mono ?_
   rintro e u' w'' ⟨rfl, rfl, hk, q1, q2⟩
   have q0 := block_keep HE0.out hk (by simp; exact ⟨n01, n02⟩)
   have r0_0 := row_cell q0 0
   have r0_1 := row_cell q0 1
   have r1' := row_cell q1 0
   have r2' := row_cell q2 0
   simp only [List.getElem?_toArray, List.getElem?_cons_zero, List.getElem?_cons_succ] at r0_0 r0_1 r1' r2'
   simp [Leaves, settle, results, Tryz.results43, go_sem, r0_0, r0_1, r1', r2']
   rw [HG.out]
   have hx := HX.out
   exact ⟨_, rfl, HKE.out.hi hk (fun y hy => by simp at hy; omega), rfl⟩
  | ok a r =>
   obtain ⟨v, rfl, h3, h4, h5⟩ := hr
   obtain ⟨vc, va, rfl, h3a, h3b⟩ := h3
   obtain ⟨Ac, kc, rfl⟩ := row_slice h3a
   obtain ⟨Aa, ka, rfl⟩ := row_slice h3b
   have h3 := And.intro h3a h3b
   have H3 := Hd h3
   have H4 := Hd h4
   have hxb := HXB.out
   have HE0 := Hd (block_keep HD0.out h5 (by simp; omega))
   have HE1 := Hd (block_keep HD1.out h5 (by simp; omega))
   have HE2 := Hd (block_keep HD2.out h5 (by simp; omega))
   have HEQ := Hd (block_keep HDQ.out h5 (by simp))
   have HKE := Hd (HKD.out.hi h5 (fun y hy => by have := HX.out; simp at hy; omega))
   have hkx := (Keeps.refl [] w2).alloc (.cells #[.slice Ac a.cells.length kc, .slice Aa a.arrays.length ka] 35)
   have HE0 := Hd (block_keep HE0.out hkx (by simp))
   have HE1 := Hd (block_keep HE1.out hkx (by simp))
   have HE2 := Hd (block_keep HE2.out hkx (by simp))
   have HEQ := Hd (block_keep HEQ.out hkx (by simp))
   have H4 := Hd (H4.out.keep hkx)
   have HKE := Hd (HKE.out.trans hkx (by simp))
   have HEA := Hd (show (w2.alloc (.cells #[.slice Ac a.cells.length kc, .slice Aa a.arrays.length ka] 35)).heap[w2.heap.size]? = some (.cells #[.slice Ac a.cells.length kc, .slice Aa a.arrays.length ka] 35 (0, 0)) from heap_alloc_new _ _)
   have HLT := Hd (show w1.heap.size < w2.heap.size from h4.lt)
   have H3 := Hd (And.intro (owned_keep H3.out.1 hkx (by simp)) (owned_keep H3.out.2 hkx (by simp)))
   have hp2 := row_cell HEQ.out 0
   simp only [List.getElem?_toArray, List.getElem?_cons_zero] at hp2
   have hleft : ∃ A' cap', (w2.alloc (.cells #[.slice Ac a.cells.length kc, .slice Aa a.arrays.length ka] 35)).cell? ⟨w1.heap.size, 0, none⟩ = some (.slice A' r.length cap') := by
    obtain ⟨_, A', cap', g', hb', _⟩ := H4.out
    have c0 := row_cell hb' 0
    simp only [List.getElem?_toArray, List.getElem?_cons_zero] at c0
    exact ⟨A', cap', c0⟩
   obtain ⟨A', cap', hcl⟩ := hleft
   clear h3 h4 h5 hxb hkx
   cases r with
   | cons t1 r1 =>
    have hln : (((t1 :: r1).length : Int) == 0) = false := by simp; omega
    obtain ⟨m, hm⟩ : ∃ m, m = (t1 :: r1).length := ⟨_, rfl⟩
    rw [← hm] at hcl hln
    clear hm
    have HN := Hd (fun w' => pneed_no w' 51)
    go_wp2_with fail
    refine (same (HN.out _)) ?_
    go_wp2
    refine leaves_cons (f := 85) (args := #[.pointer (some ⟨w1.heap.size + 1, 0, none⟩), .pointer (some ⟨X1, 0, none⟩), .pointer (some ⟨X2, 0, none⟩)]) (by simp) (by simp [go_sem]) ?_
    unfold died
    have hxb := HXB.out
    refine (panicking_G w1.heap.size l.length _ _ X1 X2 (w1.heap.size + 1) (t1 :: r1) 51 _ _ [] _ H4.out (by have := row_cell HEQ.out 0; simpa using this) HE1.out HE2.out n12 (by omega) (by omega)).mono ?_
    rintro e u' w'' ⟨rfl, rfl, hk, q1, q2⟩
    have q0 := block_keep HE0.out hk (by simp; exact ⟨n01, n02⟩)
    have r0_0 := row_cell q0 0
    have r0_1 := row_cell q0 1
    have r1' := row_cell q1 0
    have r2' := row_cell q2 0
    simp only [List.getElem?_toArray, List.getElem?_cons_zero, List.getElem?_cons_succ] at r0_0 r0_1 r1' r2'
    simp [Leaves, settle, results, Tryz.results43, go_sem, r0_0, r0_1, r1', r2']
    rw [HG.out]
    have hx := HX.out
    exact ⟨_, rfl, HKE.out.hi hk (fun y hy => by simp at hy; omega), rfl⟩
   | nil =>
    simp only [List.length_nil] at hcl
    have HN := Hd (fun w' => pneed_yes w' 51)
    go_wp2_with fail
    refine (same (HN.out _)) ?_
    obtain ⟨w3, hw3⟩ : ∃ x, x = w2.alloc (.cells #[.slice Ac a.cells.length kc, .slice Aa a.arrays.length ka] 35) := ⟨_, rfl⟩
    obtain ⟨Y, hY⟩ : ∃ x, x = w2.heap.size := ⟨_, rfl⟩
    rw [← hw3] at HE0 HE1 HE2 HEQ H4 HKE HEA H3 hp2 hcl
    rw [← hY] at HEA HLT
    have hxb := HXB.out
    have hlt := HLT.out
    have nY0 : X0 ≠ Y := by omega
    have n0Y : Y ≠ X0 := by omega
    have nY1 : X1 ≠ Y := by omega
    have nY2 : X2 ≠ Y := by omega
    have n1Y : Y ≠ X1 := by omega
    have n2Y : Y ≠ X2 := by omega
    simp only [← hw3, ← hY]
    have HY := Hd hY
    clear hw3 hY hxb hlt hp2 hcl
    clear f0_0 c0_0 f0_1 c0_1 f1_0 c1_0 f2_0 c2_0
    have hrow := HE0.out
    obtain ⟨c0_0, f0_0⟩ := rowi hrow 0
    obtain ⟨c0_1, f0_1⟩ := rowi hrow 1
    clear hrow
    have hrow := HE1.out
    have f1_0 := row_free hrow 0
    have c1_0 := row_cell hrow 0
    simp only [List.getElem?_toArray, List.getElem?_cons_zero] at c1_0
    clear hrow
    have hrow := HE2.out
    have f2_0 := row_free hrow 0
    have c2_0 := row_cell hrow 0
    simp only [List.getElem?_toArray, List.getElem?_cons_zero] at c2_0
    clear hrow
    have hrow := HEA.out
    obtain ⟨c3_0, f3_0⟩ := rowi hrow 0
    obtain ⟨c3_1, f3_1⟩ := rowi hrow 1
    clear hrow
    go_wp2
    refine leaves_cons (f := 85) (args := #[.pointer (some ⟨w1.heap.size + 1, 0, none⟩), .pointer (some ⟨X1, 0, none⟩), .pointer (some ⟨X2, 0, none⟩)]) (by simp) (by simp [go_sem]) ?_
    refine (idle_G ⟨w1.heap.size + 1, 0, none⟩ ⟨X1, 0, none⟩ ⟨X2, 0, none⟩ _).mono ?_
    rintro e u' w'' ⟨rfl, rfl, rfl⟩
    simp [Leaves, settle, results, Tryz.results43, go_sem, n01, n10, n02, n20, n12, n21, c0_0, c0_1, c1_0, c2_0, c3_0, c3_1]
    refine setsEnd (S := [X0, X1, X2]) (w := w3) ?_ ?_
    ·
     repeat (refine Keeps.setCell ?_ (by simp) _)
     exact Keeps.refl _ _
    intro W hk
    have hx := HX.out
    have hxb := HXB.out
    rw [HG.out]
    exact ⟨_, rfl, HKE.out.hi hk (fun y hy => by simp at hy; omega), w1.heap.size, by omega, ⟨_, _, rfl, owned_keep H3.out.1 hk (fun g hg hm => by have := (rowOf H3.out.1 hg).1; simp at hm; omega), owned_keep H3.out.2 hk (fun g hg hm => by have := (rowOf H3.out.2 hg).1; simp at hm; omega)⟩⟩
 ·
  have hz1 : (((o.err : Nat) : Int) != 0) = true := by simp; omega
  have HZ := Hd hz
  have hG : Px.globT l = ⟨none, o.pos, o.err⟩ := by unfold Px.globT; rw [if_neg (by rw [← HO.out]; exact hz), ← HO.out]
  have HG := Hd (HGG.out.trans hG)
  clear hz hG
  go_wp2_with fail
  obtain ⟨wa, hwa⟩ : ∃ x, x = ((w1.setCell ⟨X1, 0, none⟩ (.int .i64 ((o.pos : Nat) : Int))).setCell ⟨X2, 0, none⟩ (.int .i64 ((o.err : Nat) : Int))) := ⟨_, rfl⟩
  have hka : Keeps [X1, X2] w1 wa := by
   rw [hwa]
   repeat (refine Keeps.setCell ?_ (by simp) _)
   exact Keeps.refl _ _
  have HA0 := Hd (block_keep HB0.out hka (by simp; exact ⟨n01, n02⟩))
  have HA1 := Hd (show wa.heap[X1]? = some (.cells #[.int .i64 ((o.pos : Nat) : Int)] 3 (0, 0)) by rw [hwa, set_other n12, row_set HB1.out]; rfl)
  have HA2 := Hd (show wa.heap[X2]? = some (.cells #[.int .i64 ((o.err : Nat) : Int)] 27 (0, 0)) by
   have h2' : (w1.setCell ⟨X1, 0, none⟩ (.int .i64 ((o.pos : Nat) : Int))).heap[X2]? = some (.cells #[.int .i64 0] 27 (0, 0)) := by rw [set_other n21]; exact HB2.out
   rw [hwa, row_set h2']; rfl)
  have HKA2 := Hd (show Keeps [] w wa from by
   have h8 := HX.out
   exact HK1.out.hi hka (fun y hy => by simp at hy; omega))
  clear hka f0_0 c0_0 f0_1 c0_1 f1_0 c1_0 f2_0 c2_0
  simp only [← hwa]
  clear hwa
  refine Reg.wp_region_free (fun _ _ w' => w'.heap[X0]? = some (.cells #[.slice none 0 0, .slice none 0 0] 35 (0, 0)) ∧ w'.heap[X1]? = some (.cells #[.int .i64 ((o.pos : Nat) : Int)] 3 (0, 0)) ∧ w'.heap[X2]? = some (.cells #[.int .i64 ((o.err : Nat) : Int)] 27 (0, 0)) ∧ Keeps [] w w') (fun _ _ => True) (A := ?A)
   [Reg.Is (.agg #[.slice none 0 0, .slice none 0 0]), Reg.Is (.int .i64 ((o.pos : Nat) : Int)), Reg.Is (.int .i64 ((o.err : Nat) : Int)), AnyF, AnyF, AnyF]
   (by kernel_rfl) (by kernel_rfl) rfl ?hA ?hC ?ho ?hlast ?hend
  case hA => intro vs; simp only [Reg.fill, if_true, Nat.zero_add, Nat.reduceAdd, Act.put, List.setIfInBounds_toArray, List.set_cons_succ, List.set_cons_zero]; exact rfl
  case hC => exact fun vs => ⟨HA0.out, HA1.out, HA2.out, HKA2.out.drew⟩
  case hlast => repeat (first | exact trivial | refine ⟨fun _ _ _ h _ => h, ?_⟩)
  case ho =>
   repeat' apply And.intro
   all_goals
    first
     | exact trivial
     | (
      intro Ls vs w' hC hL hd ha K hK
      try simp only [Reg.Deps, Reg.at_, List.getD_cons_zero, List.getD_cons_succ, Region.binds, true_implies, Reg.Is, and_true, AnyF, true_and] at hd
      obtain ⟨d0, d1, d2, d3⟩ := id hC
      have f0_0 := row_free d0 0
      have c0_0 := row_cell d0 0
      have f0_1 := row_free d0 1
      have c0_1 := row_cell d0 1
      have f1_0 := row_free d1 0
      have c1_0 := row_cell d1 0
      have f2_0 := row_free d2 0
      have c2_0 := row_cell d2 0
      simp only [List.getElem?_toArray, List.getElem?_cons_zero, List.getElem?_cons_succ] at c0_0 c0_1 c1_0 c2_0
      try simp only [Reg.wantedV, if_true]
      try go_simp
      try simp only [Reg.gives_value, Reg.gives_skip, Reg.gives_enter]
      first
       | exact hK _ _ hC trivial rfl
       | exact hK _ _ hC trivial trivial
       | skip)
   ·
    have hk0 : Keeps [X0] w' ((w'.setCell ⟨X0, 0, none⟩ (.slice none 0 0)).setCell ⟨X0, 1, none⟩ (.slice none 0 0)) := by
     repeat (refine Keeps.setCell ?_ (by simp) _)
     exact Keeps.refl _ _
    refine hK _ _ ⟨by rw [row_set (row_set (d0) 0 _) 1 _]; rfl, ?_, ?_, d3.hi hk0 (by have := HX.out; simp; omega)⟩ trivial trivial
    · simp only [set_other n10]; exact d1
    · simp only [set_other n20]; exact d2
   · refine hK _ _ ⟨by rw [set_other n01]; exact d0, by rw [row_set d1]; rfl, by rw [set_other n21]; exact d2, d3.hi (T := [X1]) ((Keeps.refl _ _).setCell (by simp) _) (by have := HX.out; simp; omega)⟩ trivial trivial
   · refine hK _ _ ⟨by rw [set_other n02]; exact d0, by rw [set_other n12]; exact d1, by rw [row_set d2]; rfl, d3.hi (T := [X2]) ((Keeps.refl _ _).setCell (by simp) _) (by have := HX.out; simp; omega)⟩ trivial trivial
  case hend =>
   intro vs w' hC hall
   obtain ⟨d0, d1, d2, d3⟩ := hC
   have f0_0 := row_free d0 0
   have c0_0 := row_cell d0 0
   have f0_1 := row_free d0 1
   have c0_1 := row_cell d0 1
   have f1_0 := row_free d1 0
   have c1_0 := row_cell d1 0
   have f2_0 := row_free d2 0
   have c2_0 := row_cell d2 0
   simp only [List.getElem?_toArray, List.getElem?_cons_zero, List.getElem?_cons_succ] at c0_0 c0_1 c1_0 c2_0
   clear hall
   go_wp2
   simp [bodyPostD, Leaves, results, Tryz.results43, go_sem, c0_0, c0_1, c1_0, c2_0]
   rw [HG.out]
   exact ⟨_, rfl, d3, rfl⟩
theorem got_form_G {w' : World} {w0 : World} {g : Px.Got Px.Gl} {v : Value} (h : Val GlAt (.agg #[.slice none 0 0, .slice none 0 0]) w0.heap.size w' g.val v) : ∃ (A1 : Option Addr) (n1 c1 : Nat) (A2 : Option Addr) (n2 c2 : Nat), v = .agg #[.slice A1 n1 c1, .slice A2 n2 c2] := by
 cases hv : g.val with
 | some a =>
  rw [hv] at h
  obtain ⟨b, _, vp, vl, rfl, h1, h2⟩ := h
  obtain ⟨_, _, rfl⟩ := row_slice h1
  obtain ⟨_, _, rfl⟩ := row_slice h2
  exact ⟨_, _, _, _, _, _, rfl⟩
 | none =>
  rw [hv] at h
  subst h
  exact ⟨_, _, _, _, _, _, rfl⟩
theorem globs_any (w : World) (l : Tx) (hl : l.length ≤ 5000) (he : ErrAt w) :
 Calls Tryz.prog 15 #[.string (strO l)] w (AttP GlAt (.agg #[.slice none 0 0, .slice none 0 0]) w (Px.globT l)) := by
 have HA := Hd (fun w' (h : ErrAt w') => attempt_G w' l hl h)
 have HE := Hd (he.keep ((Keeps.refl [] w).alloc (.cells #[.slice none 0 0, .slice none 0 0] 35)))
 have HB := Hd (show (w.alloc (.cells #[.slice none 0 0, .slice none 0 0] 35)).heap[w.heap.size]? = some (.cells #[.slice none 0 0, .slice none 0 0] 35 (0, 0)) from heap_alloc_new _ _)
 have HK0 := Hd ((Keeps.refl [] w).alloc (.cells #[.slice none 0 0, .slice none 0 0] 35))
 obtain ⟨GG, hgg⟩ : ∃ x, x = Px.globT l := ⟨_, rfl⟩
 rw [← hgg] at HA ⊢
 obtain ⟨s, hs⟩ : ∃ s, s = strO l := ⟨_, rfl⟩
 rw [← hs] at HA ⊢
 clear hs hgg he
 go_enter Tryz.func15, Tryz.ntmps15
 go_wp2_with fail
 refine (HA.out _ HE.out).mono ?_
 rintro e w1 ⟨v, rfl, h1, h2⟩
 have HB := Hd (block_keep HB.out h1 (by simp))
 have HK1 := Hd (HK0.out.trans h1 (by simp))
 obtain ⟨A1, n1, c1, A2, n2, c2, rfl⟩ := got_form_G h2
 have H2 := Hd h2
 have HSZ := Hd h1.size
 clear h1 h2
 obtain ⟨X0, hX0⟩ : ∃ x, x = w.heap.size := ⟨_, rfl⟩
 have HX0 := Hd hX0
 rw [← hX0] at HB
 simp only [← hX0]
 clear hX0
 obtain ⟨cc0, ff0⟩ := rowi HB.out 0
 obtain ⟨cc1, ff1⟩ := rowi HB.out 1
 go_wp2_with fail
 refine bodyPost_ret (v := .tuple #[.agg #[.slice A1 n1 c1, .slice A2 n2 c2], .int .i64 ((GG.pos : Nat) : Int), .int .i64 ((GG.err : Nat) : Int)]) (by simp [results, Tryz.results15, go_sem, cc0, cc1]) rfl ?_
 refine setsEnd (S := [X0]) (w := w1) ?_ ?_
 ·
  repeat (refine Keeps.setCell ?_ (by simp) _)
  exact Keeps.refl _ _
 intro W hk
 have hx := HX0.out
 refine ⟨_, rfl, HK1.out.hi hk (by simp; omega), ?_⟩
 have h2 := H2.out
 have hsz := HSZ.out
 cases hv : GG.val with
 | none => rw [hv] at h2; exact h2
 | some a =>
  rw [hv] at h2
  obtain ⟨b, hb, h3⟩ := h2
  have hb' : w.heap.size + 1 ≤ b := by simpa using hb
  exact ⟨b, by omega, h3.keepHi hk (fun y hy => by simp at hy; omega)⟩
end
section
set_option maxHeartbeats 1000000
set_option maxRecDepth 100000
open Go.RowKit Go.Shelf
open Lx (Tok Tx)
open Px (Ex Cn Sm Vr Gl)
def Yes (w : World) (e : Ending) (w' : World) : Prop := e = .returned (.bool true) ∧ Keeps [] w w'
theorem row_at {w : World} {base : Nat} {T : TypeId} {sz n : Nat} {v : Value} {xs : List Value} (h : w.ownsRow base T sz v n xs) (hn : n ≠ 0) : ∃ g cap, v = .slice (some ⟨g, 0, none⟩) n cap ∧ ∀ j u, xs[j]? = some u → w.cell? ⟨g, j, none⟩ = some u := by
 rcases h.2 with ⟨_, h0⟩ | ⟨g, cap, cur, rfl, hb, hg, rest⟩
 · exact absurd h0 hn
 ·
  refine ⟨g, cap, rfl, fun j u hj => ?_⟩
  have := h.cells (g := g) rfl j u hj
  rwa [Addr.add_lit, Nat.zero_add] at this
theorem pknown_any (w : World) (he : ErrAt w) : Calls Tryz.prog 12 #[] w (Yes w) := by
 have H1 := Hd (fun w' (h : ErrAt w') => func_any w' [102, 110, 32, 102, 40, 120, 41, 32, 123, 32, 114, 101, 116, 117, 114, 110, 32, 120, 32, 43, 32, 49, 59, 32, 125] (by decide) h)
 rw [Px.ex1] at H1
 have H2 := Hd (fun w' (h : ErrAt w') => func_any w' [102, 110, 32, 102, 40, 120, 41, 32, 123, 32, 114, 101, 116, 117, 114, 110, 32, 59, 32, 125] (by decide) h)
 rw [Px.ex2] at H2
 have H3 := Hd (fun w' (h : ErrAt w') => globs_any w' [99, 101, 108, 108, 32, 99, 59, 32, 97, 114, 114, 97, 121, 32, 97, 91, 51, 93, 59] (by decide) h)
 rw [Px.ex3] at H3
 have HE := Hd he
 clear he
 go_enter Tryz.func12, Tryz.ntmps12
 go_wp2_with fail
 refine (H1.out w HE.out).mono ?_
 rintro e w1 ⟨v, rfl, hk1, b1, -, vp, vl, vb, rfl, hp, hl, B, ⟨cs, hown, -, vs, ds, rfl, hsa, hds⟩, -⟩
 obtain rfl : ds = [] := hds
 obtain ⟨ve, vf, vc, va, vt, vl2, rfl, ⟨x, xa, xb, rfl, -, hxr, -⟩, -⟩ := hsa
 obtain ⟨Ap, cp, hvp⟩ : ∃ A c, vp = .slice A 1 c := hp.form
 obtain ⟨Al, cl, hvl⟩ : ∃ A c, vl = .slice A 0 c := hl.form
 obtain ⟨g, cb, hvb, hcells⟩ := row_at hown (by simp)
 have hvb' : vb = .slice (some ⟨g, 0, none⟩) 1 cb := hvb
 subst hvp hvl
 subst hvb'
 have hs : strO [102] = (⟨#[102]⟩ : ByteArray) := rfl
 rw [hs]
 clear hs
 have HG0 := Hd (hcells 0 (.int .i64 9) rfl)
 have HG3 := Hd (hcells 3 (.pointer (some ⟨x, 0, none⟩)) rfl)
 have HX0 := Hd (show w1.cell? ⟨x, 0, none⟩ = some (.int .i64 2) from row_cell hxr 0)
 have HK1 := Hd (hk1.alloc (.cells #[.string ⟨#[102]⟩, .slice Ap 1 cp, .slice Al 0 cl, .slice (some ⟨g, 0, none⟩) 1 cb] 26))
 have HB := Hd (show (w1.alloc (.cells #[.string ⟨#[102]⟩, .slice Ap 1 cp, .slice Al 0 cl, .slice (some ⟨g, 0, none⟩) 1 cb] 26)).heap[w1.heap.size]? = some (.cells #[.string ⟨#[102]⟩, .slice Ap 1 cp, .slice Al 0 cl, .slice (some ⟨g, 0, none⟩) 1 cb] 26 (0, 0)) from heap_alloc_new _ _)
 have hka := (Keeps.refl [] w1).alloc (.cells #[.string ⟨#[102]⟩, .slice Ap 1 cp, .slice Al 0 cl, .slice (some ⟨g, 0, none⟩) 1 cb] 26)
 have HG0 := Hd (hka.cell_some HG0.out (by simp))
 have HG3 := Hd (hka.cell_some HG3.out (by simp))
 have HX0 := Hd (hka.cell_some HX0.out (by simp))
 clear hk1 hp hl hown hcells hxr hvb hka
 go_wp2_with fail
 refine (H2.out _ (HE.out.keep HK1.out)).mono ?_
 rintro e w2 ⟨v, rfl, hk2, rfl⟩
 have HK2 := Hd (HK1.out.trans hk2 (by simp))
 have HB := Hd (block_keep HB.out hk2 (by simp))
 have HG0 := Hd (hk2.cell_some HG0.out (by simp))
 have HG3 := Hd (hk2.cell_some HG3.out (by simp))
 have HX0 := Hd (hk2.cell_some HX0.out (by simp))
 clear hk2
 have hkz := (Keeps.refl [] w2).alloc (.cells #[.string .empty, .slice none 0 0, .slice none 0 0, .slice none 0 0] 26)
 have HK2 := Hd (HK2.out.trans hkz (by simp))
 have HB := Hd (block_keep HB.out hkz (by simp))
 have HG0 := Hd (hkz.cell_some HG0.out (by simp))
 have HG3 := Hd (hkz.cell_some HG3.out (by simp))
 have HX0 := Hd (hkz.cell_some HX0.out (by simp))
 clear hkz
 go_wp2_with fail
 refine (H3.out _ (HE.out.keep HK2.out)).mono ?_
 rintro e w3 ⟨v, rfl, hk3, b3, -, vc3, va3, rfl, hc3, ha3⟩
 obtain ⟨Ac, cc, hvc⟩ : ∃ A c, vc3 = .slice A 1 c := row_slice hc3
 obtain ⟨g3, ca, hva, hcells⟩ := row_at ha3 (by simp)
 have hva' : va3 = .slice (some ⟨g3, 0, none⟩) 1 ca := hva
 subst hvc hva'
 have hk4 := (Keeps.refl [] w3).alloc (.cells #[.slice Ac 1 cc, .slice (some ⟨g3, 0, none⟩) 1 ca] 35)
 have HK3 := Hd ((HK2.out.trans hk3 (by simp)).trans hk4 (by simp))
 have hb3 := block_keep HB.out hk3 (by simp)
 have hb4 := block_keep hb3 hk4 (by simp)
 have hg0 := hk3.cell_some HG0.out (by simp)
 have hg3 := hk3.cell_some HG3.out (by simp)
 have hx0 := hk3.cell_some HX0.out (by simp)
 have hg0' := hk4.cell_some hg0 (by simp)
 have hg3' := hk4.cell_some hg3 (by simp)
 have hx0' := hk4.cell_some hx0 (by simp)
 have hl1 := hcells 1 (.int .i64 3) rfl
 have hl1' := hk4.cell_some hl1 (by simp)
 have c0 := row_cell hb4 0
 have c1 := row_cell hb4 1
 have c2 := row_cell hb4 2
 have c3 := row_cell hb4 3
 have d0 := row_cell hb3 0
 have d1 := row_cell hb3 1
 have d2 := row_cell hb3 2
 have d3 := row_cell hb3 3
 simp only [List.getElem?_toArray, List.getElem?_cons_zero, List.getElem?_cons_succ] at c0 c1 c2 c3 d0 d1 d2 d3
 clear hk3 hc3 ha3 hcells hva hk4 hb3 hb4
 go_wp2_with fail
 all_goals
  first
   | (go_ret; exact ⟨rfl, HK3.out⟩)
   | trace_state
end
end Go.Proofs.YtbikifibfaaggaaGreatDoor
