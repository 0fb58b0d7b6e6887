/- How an argument of parts is opened. -/
import Derived.Test.YtohmadfaaonaaaaCOpen
import Derived.Test.YtohmadfaaonaaaaCLight
import Derived.Deep.Slices
namespace Go.Proofs.Ytohmadfaaonaaaa
open Go.ChangeShapes Go.WideShapes Go.ChangeAt Go.RowKit

instance : Inhabited Al := ⟨⟨0, 0⟩⟩
instance : Inhabited Nm := ⟨⟨default, ⟨false, 0, 0⟩⟩⟩
instance : Inhabited Pt := ⟨⟨0, 0, default, ⟨[], false, ⟨false, 0, 0⟩, []⟩⟩⟩
theorem cellsOf66 : Try.prog.cellsOf 66 = 2 := by kernel_rfl
theorem cellsOf87 : Try.prog.cellsOf 87 = 4 := by kernel_rfl
theorem cellsOf37 : Try.prog.cellsOf 37 = 9 := by kernel_rfl
theorem cellsOf35 : Try.prog.cellsOf 35 = 6 := by kernel_rfl
theorem cellsOf32 : Try.prog.cellsOf 32 = 3 := by kernel_rfl
theorem cellsOfi : Try.prog.cellsOf 3 = 1 := by kernel_rfl
theorem cellsOfi64 : Try.prog.cellsOf 2 = 1 := by kernel_rfl
theorem cellsOfu8 : Try.prog.cellsOf 5 = 1 := by kernel_rfl
theorem cellsOfu64 : Try.prog.cellsOf 29 = 1 := by kernel_rfl
theorem cellsOfs : Try.prog.cellsOf 9 = 1 := by kernel_rfl
theorem cellsOfb : Try.prog.cellsOf 4 = 1 := by kernel_rfl
theorem cellsOfal : Try.prog.cellsOf 30 = 1 := by kernel_rfl
theorem cellsOfnm : Try.prog.cellsOf 33 = 1 := by kernel_rfl

theorem len2 {α : Type} {l : List α} (h : l.length = 2) : ∃ a b, l = [a, b] := by
  match l, h with | [a, b], _ => exact ⟨a, b, rfl⟩
theorem len4 {α : Type} {l : List α} (h : l.length = 4) : ∃ a b c d, l = [a, b, c, d] := by
  match l, h with | [a, b, c, d], _ => exact ⟨a, b, c, d, rfl⟩
theorem len9 {α : Type} {l : List α} (h : l.length = 9) : ∃ a b c d e f g i j, l = [a, b, c, d, e, f, g, i, j] := by
  match l, h with | [a, b, c, d, e, f, g, i, j], _ => exact ⟨a, b, c, d, e, f, g, i, j, rfl⟩
section
variable {H : Type} {enc : TypeId × Value → H} {W : World} {base : Nat} {held : Bool}
theorem open_iv {n : Nat} {u0 u1 u2 : Value} {y : DataW H × List MemPlace} (h : DataW.trod enc Try.prog W base (fun _ => true) held n 32 [u0, u1, u2] = some y) :
    ∃ iv : Iv, u0 = .bool iv.some ∧ u1 = .int .i64 iv.lo ∧ u2 = .int .i64 iv.hi ∧ iv.ok := by
  obtain ⟨xs, n2, _, _, _, hxl, hf⟩ := DataW.trod_struct Try.underlying32 h
  have g0 : DataW.trod enc Try.prog W base (fun _ => true) held n2 4 (List.take (Try.prog.cellsOf 4) (List.drop 0 [u0, u1, u2])) = _ := hf 0 _ rfl
  have g1 : DataW.trod enc Try.prog W base (fun _ => true) held n2 2 (List.take (Try.prog.cellsOf 2) (List.drop 1 [u0, u1, u2])) = _ := hf 1 _ rfl
  have g2 : DataW.trod enc Try.prog W base (fun _ => true) held n2 2 (List.take (Try.prog.cellsOf 2) (List.drop 2 [u0, u1, u2])) = _ := hf 2 _ rfl
  simp only [cellsOfi64, cellsOfb] at g0 g1 g2
  match xs, hxl with
  | [y0, y1, y2], _ =>
    obtain ⟨b, e0, _⟩ := DataW.trod_bool Try.underlying4 g0
    obtain ⟨z1, e1, _, w1⟩ := DataW.trod_int Try.underlying2 g1
    obtain ⟨z2, e2, _, w2⟩ := DataW.trod_int Try.underlying2 g2
    simp at e0 e1 e2
    exact ⟨⟨b, z1, z2⟩, e0, e1, e2, wide_of w1, wide_of w2⟩
theorem open_als {n : Nat} {v : Value} {y : DataW H × List MemPlace} (h : DataW.trod enc Try.prog W base (fun _ => true) held n 30 [v] = some y) :
    ∃ hb A als c, v = .slice A als.length c ∧ AlsIn W hb A als ∧ (∀ a ∈ als, a.ok) ∧ als.length ≤ maxLen := by
  rcases Deep.open_slice Try.underlying30 h with ⟨hcs, _⟩ | ⟨a, len, cap, m, n', D, Pl, hcs, _, hl, hm, hmm, _, hi⟩
  · obtain rfl : v = .slice none 0 0 := by simpa using hcs
    exact ⟨0, none, [], 0, rfl, .inl rfl, by simp, Nat.zero_le _⟩
  · obtain rfl : v = .slice (some a) len cap := by simpa using hcs
    have hmm' : m = cap := by simpa using hmm
    have hi' : ∀ i, i < len → ∃ x : Al, W.cell? (a.add (i * 2)) = some (.int .i64 x.pos) ∧ W.cell? (a.add (i * 2 + 1)) = some (.int .i64 x.kind) ∧ x.ok := fun i hl' => by
      obtain ⟨cs', hc, ht⟩ := hi i (by omega)
      rw [cellsOf66] at hc
      obtain ⟨_, hcl, hat⟩ := World.cells?_some hc
      obtain ⟨xs, n2, _, _, _, hxl, hf⟩ := DataW.trod_struct Try.underlying66 ht
      have g0 : DataW.trod enc Try.prog W base (fun _ => true) held n2 3 (List.take (Try.prog.cellsOf 3) (List.drop 0 cs')) = _ := hf 0 _ rfl
      have g1 : DataW.trod enc Try.prog W base (fun _ => true) held n2 3 (List.take (Try.prog.cellsOf 3) (List.drop 1 cs')) = _ := hf 1 _ rfl
      simp only [cellsOfi] at g0 g1
      obtain ⟨u0, u1, rfl⟩ := len2 hcl
      obtain ⟨y0, y1, rfl⟩ := len2 hxl
      · obtain ⟨z0, e0, _, w0⟩ := DataW.trod_int Try.underlying3 g0
        obtain ⟨z1, e1, _, w1⟩ := DataW.trod_int Try.underlying3 g1
        simp at e0 e1
        subst e0 e1
        have a0 := hat 0 (by omega)
        have a1 := hat 1 (by omega)
        rw [Deep.add_add] at a0 a1
        exact ⟨⟨z0, z1⟩, a0, a1, wide_of w0, wide_of w1⟩
    obtain ⟨F, hF⟩ := Deep.choose_lt hi'
    refine ⟨a.block, some a, (List.range len).map F, cap, by simp, ?_, ?_, by simp; omega⟩
    · by_cases h0 : len = 0
      · subst h0; exact .inl rfl
      · obtain ⟨b, off, spot⟩ := a
        have hs : spot = none := by simpa [Addr.add] using World.cell?_spot (hF 0 (by omega)).1
        subst hs
        refine .inr ⟨off, rfl, fun k hk => ?_⟩
        have hk' : k < len := by simpa using hk
        have h3 := hF k hk'
        simp only [Addr.add_lit] at h3
        simp only [List.getElem_map, List.getElem_range]
        exact ⟨h3.1, by rw [Nat.add_assoc]; exact h3.2.1⟩
    · intro x hx
      obtain ⟨i, hi1, rfl⟩ := List.mem_map.1 hx
      exact (hF i (by simpa using hi1)).2.2
theorem open_nms {n : Nat} {v : Value} {y : DataW H × List MemPlace} (h : DataW.trod enc Try.prog W base (fun _ => true) held n 33 [v] = some y) :
    ∃ hb A ms c, v = .slice A ms.length c ∧ NmsIn W hb A ms ∧ (∀ m ∈ ms, m.v.ok ∧ m.name.size ≤ maxLen) ∧ ms.length ≤ maxLen := by
  rcases Deep.open_slice Try.underlying33 h with ⟨hcs, _⟩ | ⟨a, len, cap, m, n', D, Pl, hcs, _, hl, hm, hmm, _, hi⟩
  · obtain rfl : v = .slice none 0 0 := by simpa using hcs
    exact ⟨0, none, [], 0, rfl, .inl rfl, by simp, Nat.zero_le _⟩
  · obtain rfl : v = .slice (some a) len cap := by simpa using hcs
    have hmm' : m = cap := by simpa using hmm
    have hi' : ∀ i, i < len → ∃ x : Nm, W.cell? (a.add (i * 4)) = some (.string x.name) ∧ W.cell? (a.add (i * 4 + 1)) = some (.bool x.v.some) ∧ W.cell? (a.add (i * 4 + 2)) = some (.int .i64 x.v.lo) ∧ W.cell? (a.add (i * 4 + 3)) = some (.int .i64 x.v.hi) ∧ x.v.ok ∧ x.name.size ≤ maxLen := fun i hl' => by
      obtain ⟨cs', hc, ht⟩ := hi i (by omega)
      rw [cellsOf87] at hc
      obtain ⟨_, hcl, hat⟩ := World.cells?_some hc
      obtain ⟨xs, n2, _, _, _, hxl, hf⟩ := DataW.trod_struct Try.underlying87 ht
      have g0 : DataW.trod enc Try.prog W base (fun _ => true) held n2 9 (List.take (Try.prog.cellsOf 9) (List.drop 0 cs')) = _ := hf 0 _ rfl
      have g1 : DataW.trod enc Try.prog W base (fun _ => true) held n2 32 (List.take (Try.prog.cellsOf 32) (List.drop 1 cs')) = _ := hf 1 _ rfl
      simp only [cellsOfs, cellsOf32] at g0 g1
      obtain ⟨u0, u1, u2, u3, rfl⟩ := len4 hcl
      obtain ⟨y0, y1, rfl⟩ := len2 hxl
      · obtain ⟨s, e0, _, w0⟩ := DataW.trod_string Try.underlying9 g0
        obtain ⟨iv, e1, e2, e3, w1⟩ := open_iv (u0 := u1) (u1 := u2) (u2 := u3) g1
        simp at e0
        subst e0 e1 e2 e3
        have a0 := hat 0 (by omega)
        have a1 := hat 1 (by omega)
        have a2 := hat 2 (by omega)
        have a3 := hat 3 (by omega)
        rw [Deep.add_add] at a0 a1 a2 a3
        exact ⟨⟨s, iv⟩, a0, a1, a2, a3, w1, w0⟩
    obtain ⟨F, hF⟩ := Deep.choose_lt hi'
    refine ⟨a.block, some a, (List.range len).map F, cap, by simp, ?_, ?_, by simp; omega⟩
    · by_cases h0 : len = 0
      · subst h0; exact .inl rfl
      · obtain ⟨b, off, spot⟩ := a
        have hs : spot = none := by simpa [Addr.add] using World.cell?_spot (hF 0 (by omega)).1
        subst hs
        refine .inr ⟨off, rfl, fun k hk => ?_⟩
        have hk' : k < len := by simpa using hk
        have h3 := hF k hk'
        simp only [Addr.add_lit] at h3
        simp only [List.getElem_map, List.getElem_range, Nat.add_assoc]
        exact ⟨h3.1, h3.2.1, h3.2.2.1, h3.2.2.2.1⟩
    · intro x hx
      obtain ⟨i, hi1, rfl⟩ := List.mem_map.1 hx
      exact (hF i (by simpa using hi1)).2.2.2.2
theorem open_parts {v : Value} {d : DataW H} {p : List MemPlace} (hv : ∃ a len cap, v = .slice a len cap) (h : DataW.Trod enc Try.prog W base (fun _ => true) held 22 v d p) :
    ∃ A ps cap g, v = .slice A ps.length cap ∧ PartsIn W g A ps ∧ (∀ p ∈ ps, p.fits) ∧ ps.length ≤ maxLen := by
  obtain ⟨a, len, cap, rfl⟩ := hv
  obtain ⟨fuel, hf⟩ := h
  rcases Deep.open_slice Try.underlying22 hf with ⟨hcs, _⟩ | ⟨a', len', cap', m, n', D, Pl, hcs, _, hl, hm, hmm, _, hi⟩
  · simp [Value.cells] at hcs
    obtain ⟨rfl, rfl, rfl⟩ := hcs
    exact ⟨none, [], 0, 0, rfl, .inl rfl, by simp, Nat.zero_le _⟩
  · simp [Value.cells] at hcs
    obtain ⟨rfl, rfl, rfl⟩ := hcs
    have hmm' : m = cap := by simpa using hmm
    have hi' : ∀ i, i < len → ∃ x : Pt, x.fits ∧ W.cell? (a'.add (i * 9)) = some (.int .u8 (x.what : Int)) ∧ ∀ b off, a' = ⟨b, off, none⟩ → PartAt W b (off + i * 9) x := fun i hl' => by
      obtain ⟨cs', hc, ht⟩ := hi i (by omega)
      rw [cellsOf37] at hc
      obtain ⟨_, hcl, hat⟩ := World.cells?_some hc
      obtain ⟨xs, n2, _, _, _, hxl, hf⟩ := DataW.trod_struct Try.underlying37 ht
      have g0 : DataW.trod enc Try.prog W base (fun _ => true) held n2 5 (List.take (Try.prog.cellsOf 5) (List.drop 0 cs')) = _ := hf 0 _ rfl
      have g1 : DataW.trod enc Try.prog W base (fun _ => true) held n2 29 (List.take (Try.prog.cellsOf 29) (List.drop 1 cs')) = _ := hf 1 _ rfl
      have g2 : DataW.trod enc Try.prog W base (fun _ => true) held n2 9 (List.take (Try.prog.cellsOf 9) (List.drop 2 cs')) = _ := hf 2 _ rfl
      have g3 : DataW.trod enc Try.prog W base (fun _ => true) held n2 35 (List.take (Try.prog.cellsOf 35) (List.drop 3 cs')) = _ := hf 3 _ rfl
      simp only [cellsOfu8, cellsOfu64, cellsOfs, cellsOf35] at g0 g1 g2 g3
      obtain ⟨u0, u1, u2, u3, u4, u5, u6, u7, u8, rfl⟩ := len9 hcl
      obtain ⟨y0, y1, y2, y3, rfl⟩ := len4 hxl
      · obtain ⟨z0, e0, _, w0⟩ := DataW.trod_int Try.underlying5 g0
        obtain ⟨z1, e1, _, w1⟩ := DataW.trod_int Try.underlying29 g1
        obtain ⟨t, e2, _, w2⟩ := DataW.trod_string Try.underlying9 g2
        obtain ⟨xs', n3, _, _, _, hxl', hf'⟩ := DataW.trod_struct Try.underlying35 g3
        have k0 : DataW.trod enc Try.prog W base (fun _ => true) held n3 30 (List.take (Try.prog.cellsOf 30) (List.drop 0 _)) = _ := hf' 0 _ rfl
        have k1 : DataW.trod enc Try.prog W base (fun _ => true) held n3 4 (List.take (Try.prog.cellsOf 4) (List.drop 1 _)) = _ := hf' 1 _ rfl
        have k2 : DataW.trod enc Try.prog W base (fun _ => true) held n3 32 (List.take (Try.prog.cellsOf 32) (List.drop 2 _)) = _ := hf' 2 _ rfl
        have k3 : DataW.trod enc Try.prog W base (fun _ => true) held n3 33 (List.take (Try.prog.cellsOf 33) (List.drop 5 _)) = _ := hf' 3 _ rfl
        simp only [cellsOfal, cellsOfb, cellsOf32, cellsOfnm] at k0 k1 k2 k3
        obtain ⟨y4, y5, y6, y7, rfl⟩ := len4 hxl'
        · obtain ⟨h1, Aa, als, ca, e3, hal, hao, hal'⟩ := open_als (v := u3) k0
          obtain ⟨b, e4, _⟩ := DataW.trod_bool Try.underlying4 k1
          obtain ⟨iv, e5, e6, e7, wiv⟩ := open_iv (u0 := u5) (u1 := u6) (u2 := u7) k2
          obtain ⟨h2, Am, ms, cm, e8, hms, hmo, hml⟩ := open_nms (v := u8) k3
          simp at e0 e1 e2 e4
          subst e0 e1 e2 e3 e4 e5 e6 e7 e8
          have a0 := hat 0 (by omega)
          have a1 := hat 1 (by omega)
          have a2 := hat 2 (by omega)
          have a3 := hat 3 (by omega)
          have a4 := hat 4 (by omega)
          have a5 := hat 5 (by omega)
          have a6 := hat 6 (by omega)
          have a7 := hat 7 (by omega)
          have a8 := hat 8 (by omega)
          rw [Deep.add_add] at a0 a1 a2 a3 a4 a5 a6 a7 a8
          simp [Lit.wf, IntKind.min, IntKind.max, IntKind.bits, IntKind.signed] at w0 w1
          obtain ⟨q0, rfl⟩ := Int.eq_ofNat_of_zero_le w0.1
          obtain ⟨q1, rfl⟩ := Int.eq_ofNat_of_zero_le w1.1
          refine ⟨⟨q0, q1, t, ⟨als, b, iv, ms⟩⟩, ⟨⟨?_, ?_, hao, wiv, fun m hm => (hmo m hm).1⟩, w2, hal', hml, fun m hm => (hmo m hm).2⟩, a0, fun b' off ha => ?_⟩
          · simp only []; omega
          · simp only []; omega
          · subst ha
            simp only [Addr.add_lit] at a0 a1 a2 a3 a4 a5 a6 a7 a8
            simp only [← Nat.add_assoc] at a0 a1 a2 a3 a4 a5 a6 a7 a8
            exact ⟨h1, h2, Aa, ca, Am, cm, a0, a1, a2, a3, a4, a5, a6, a7, a8, hal, hms⟩
    obtain ⟨F, hF⟩ := Deep.choose_lt hi'
    refine ⟨some a', (List.range len).map F, cap, a'.block, by simp, ?_, ?_, by simp; omega⟩
    · by_cases h0 : len = 0
      · subst h0; exact .inl rfl
      · obtain ⟨b, off, spot⟩ := a'
        have hs : spot = none := by simpa [Addr.add] using World.cell?_spot (hF 0 (by omega)).2.1
        subst hs
        refine .inr ⟨off, rfl, fun k hk => ?_⟩
        have hk' : k < len := by simpa using hk
        simp only [List.getElem_map, List.getElem_range]
        exact (hF k hk').2.2 b off rfl
    · intro x hx
      obtain ⟨i, hi1, rfl⟩ := List.mem_map.1 hx
      exact (hF i (by simpa using hi1)).1
end
end Go.Proofs.Ytohmadfaaonaaaa
