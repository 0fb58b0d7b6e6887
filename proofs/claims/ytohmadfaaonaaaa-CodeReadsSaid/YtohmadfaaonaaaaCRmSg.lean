/- The reference's Summary: the region that adds a name. -/
import Derived.Test.YtohmadfaaonaaaaCRmSm
import Derived.Test.YtohmadfaaonaaaaCRefS
import Derived.Test.YtohmadfaaonaaaaCPlain
namespace Go.Proofs.Ytohmadfaaonaaaa
open Go.RowKit
open Reg (Is Fact)

/-- One answer or none: Text. -/
theorem mText' (w : World) (m g : Nat) (l : List UInt8) (hr : RmAt w m g l false) : Calls Try.prog 27 #[.pointer (some ⟨m, 0, none⟩)] w fun e w' => ∃ s l' f', e = .returned (.string s) ∧ RmAt w' m g l' f' ∧ Keeps [m] w w' ∧ (f' = true → M.decStr l = none) ∧ (f' = false → M.decStr l = some (s, l')) := by
  refine (mText w m g false l hr).mono fun e w' h => ?_
  cases hd : M.decStr l with
  | none =>
    have h' : Mo (none : Option (ByteArray × List UInt8)) (fun s => .string s) (.string .empty) m g w e w' := by rw [show M.opt false (M.decStr l) = none from hd] at h; exact h
    obtain ⟨rfl, l', h1, h2⟩ := h'
    exact ⟨_, l', true, rfl, h1, h2, fun _ => rfl, fun h => (by cases h)⟩
  | some x =>
    obtain ⟨s, r⟩ := x
    have h' : Mo (some (s, r)) (fun s => .string s) (.string .empty) m g w e w' := by rw [show M.opt false (M.decStr l) = some (s, r) from hd] at h; exact h
    obtain ⟨rfl, h1, h2⟩ := h'
    exact ⟨s, r, false, rfl, h1, h2, fun h => (by cases h), fun _ => rfl⟩
/-- What an interval read from (l, f) leaves. -/
def Lk (l : List UInt8) (f : Bool) (iv : Iv) (l' : List UInt8) (f' : Bool) : Prop := (f' = true → M.opt f (M.decIv l) = none) ∧ (f' = false → M.opt f (M.decIv l) = some (iv, l'))
theorem mIval' (w : World) (m g : Nat) (f : Bool) (l : List UInt8) (hr : RmAt w m g l f) : Calls Try.prog 57 #[.pointer (some ⟨m, 0, none⟩)] w fun e w' => ∃ iv l' f', e = .returned (ivVal iv) ∧ RmAt w' m g l' f' ∧ Keeps [m] w w' ∧ Lk l f iv l' f' := by
  refine (mIval w m g f l hr).mono fun e w' h => ?_
  unfold Lk
  cases hd : M.opt f (M.decIv l) with
  | none =>
    rw [hd] at h
    obtain ⟨iv, l', rfl, h1, h2⟩ := h
    exact ⟨iv, l', true, rfl, h1, h2, fun _ => rfl, fun h => (by cases h)⟩
  | some x =>
    obtain ⟨iv, r⟩ := x
    rw [hd] at h
    obtain ⟨rfl, h1, h2⟩ := h
    exact ⟨iv, r, false, rfl, h1, h2, fun h => (by cases h), fun _ => rfl⟩

def nmVal (s : ByteArray) (iv : Iv) : Value := .agg #[.string s, .bool iv.some, .int .i64 iv.lo, .int .i64 iv.hi]
/-- Behind the append, ahead of the store. -/
def SQ7 (w wr : World) (m g : Nat) (l : List UInt8) (f : Bool) (va vm v : Value) (als : List Al) (es : List Nm) (a : Nm) (b : Bool) (iv : Iv) : Prop :=
  RmAt wr m g l f ∧ Keeps [m] w wr ∧ wr.heap[w.heap.size]? = some (.cells #[.slice none 0 0, .bool false, .bool false, .int .i64 0, .int .i64 0, .slice none 0 0] 35 (0, 0)) ∧
  wr.heap[w.heap.size + 1]? = some (.cells #[va, .bool b, .bool iv.some, .int .i64 iv.lo, .int .i64 iv.hi, vm] 35 (0, 0)) ∧
  (∃ h A c, va = .slice A als.length c ∧ AlsIn wr h A als ∧ w.heap.size + 2 ≤ h ∧ (als = [] ∨ v.ownBlock ≠ some h)) ∧ wr.ownsRow (w.heap.size + 2) 87 4 v (es ++ [a]).length (nmCells (es ++ [a])) ∧ m < w.heap.size ∧ g < w.heap.size ∧ (∃ A c, vm = .slice A es.length c)
def CM (w : World) (m g : Nat) (l1 : List UInt8) (f1 : Bool) (va vm : Value) (als : List Al) (es : List Nm) (b : Bool) (iv0 : Iv) (tx : ByteArray) (L : Nat → Bool) (vs : Nat → Value) (w' : World) : Prop :=
  ((L 9 = true → L 7 = true) ∧ (L 7 = true → L 6 = true) ∧ (L 6 = true → L 5 = true) ∧ (L 5 = true → L 4 = true) ∧ (L 7 = true → L 1 = true)) ∧
  (L 4 = false → SQ w w' m g l1 f1 va vm als es b iv0) ∧
  (L 4 = true → ∃ iv l2 f2, vs 4 = ivVal iv ∧ Lk l1 f1 iv l2 f2 ∧ (L 5 = true → vs 5 = nmVal tx iv) ∧
    (L 6 = true → L 7 = false → ∃ y, vs 6 = .slice (some ⟨y, 0, none⟩) 1 1 ∧ ∀ j u, (nmCells [⟨tx, iv⟩])[j]? = some u → w'.cell? ⟨y, j, none⟩ = some u) ∧
    (L 7 = false → SQ w w' m g l2 f2 va vm als es b iv0) ∧
    (L 7 = true → L 9 = false → SQ7 w w' m g l2 f2 va vm (vs 7) als es ⟨tx, iv⟩ b iv0) ∧
    (L 9 = true → SQ w w' m g l2 f2 va (vs 7) als (es ++ [⟨tx, iv⟩]) b iv0))
section
variable {w w' w'' : World} {m g i : Nat} {l1 : List UInt8} {f1 : Bool} {va vm v : Value} {als : List Al} {es : List Nm} {b : Bool} {iv0 : Iv} {tx : ByteArray} {L : Nat → Bool} {vs : Nat → Value}
theorem CM.start {n : Nat} (hn : 9 < n) (h : SQ w w' m g l1 f1 va vm als es b iv0) : CM w m g l1 f1 va vm als es b iv0 tx (fun k => decide (n ≤ k)) vs w'.drew := by
  have e : ∀ k, k ≤ 9 → (decide (n ≤ k)) = false := fun k hk => by simp; omega
  have hq : SQ w w'.drew m g l1 f1 va vm als es b iv0 := h.read (h.1.keep (Keeps.refl [] _).drew (by simp) (by simp)) ((Keeps.refl _ _).drew)
  unfold CM
  simp only [e 9 (by omega), e 7 (by omega), e 6 (by omega), e 5 (by omega), e 4 (by omega), e 1 (by omega)]
  refine ⟨by simp, fun _ => hq, fun h => (by cases h)⟩
theorem CM.pure (h : CM w m g l1 f1 va vm als es b iv0 tx L vs w') (hi : i = 0 ∨ i = 1 ∨ i = 2 ∨ i = 3 ∨ i = 8) : CM w m g l1 f1 va vm als es b iv0 tx (Reg.lay L i) (Reg.upd vs i v) w' := by
  have h1 : L 1 = true → Reg.lay L i 1 = true := by intro h; unfold Reg.lay; simp [h]
  obtain ⟨⟨a1, a2, a3, a4, a5⟩, hb, hc⟩ := h
  unfold CM
  rw [lay_ne (c := 9) (by omega), lay_ne (c := 7) (by omega), lay_ne (c := 6) (by omega), lay_ne (c := 5) (by omega), lay_ne (c := 4) (by omega), upd_ne (c := 4) (by omega), upd_ne (c := 5) (by omega), upd_ne (c := 6) (by omega), upd_ne (c := 7) (by omega)]
  exact ⟨⟨a1, a2, a3, a4, fun h => h1 (a5 h)⟩, hb, hc⟩
theorem CM.boxed (h : CM w m g l1 f1 va vm als es b iv0 tx L vs w') (h9 : L 9 = false) : w'.heap[w.heap.size + 1]? = some (.cells #[va, .bool b, .bool iv0.some, .int .i64 iv0.lo, .int .i64 iv0.hi, vm] 35 (0, 0)) := by
  obtain ⟨_, hb, hc⟩ := h
  cases h4 : L 4 with
  | false => exact (hb h4).2.2.2.1
  | true =>
    obtain ⟨iv, l2, f2, _, _, _, _, c7, c8, _⟩ := hc h4
    cases h7 : L 7 with
    | false => exact (c7 h7).2.2.2.1
    | true => exact (c8 h7 h9).2.2.2.1
theorem CM.call (h : CM w m g l1 f1 va vm als es b iv0 tx L vs w') (hL : L 4 = false) {iv : Iv} {l2 : List UInt8} {f2 : Bool} (h1 : RmAt w'' m g l2 f2) (hk : Keeps [m] w' w'') (hl : Lk l1 f1 iv l2 f2) : CM w m g l1 f1 va vm als es b iv0 tx (Reg.lay L 4) (Reg.upd vs 4 (ivVal iv)) w'' := by
  obtain ⟨⟨a1, a2, a3, a4, a5⟩, hb, _⟩ := h
  have e5 : L 5 = false := not_up a4 hL
  have e6 : L 6 = false := not_up a3 e5
  have e7 : L 7 = false := not_up a2 e6
  have e9 : L 9 = false := not_up a1 e7
  unfold CM
  rw [lay_ne (c := 9) (by omega), lay_ne (c := 7) (by omega), lay_ne (c := 6) (by omega), lay_ne (c := 5) (by omega), lay_ne (c := 1) (by omega), lay_eq, upd_eq, e5, e6, e7, e9]
  exact ⟨⟨by simp, by simp, by simp, by simp, by simp⟩, fun h => (by cases h), fun _ => ⟨iv, l2, f2, rfl, hl, by simp, by simp, fun _ => (hb hL).read h1 hk, by simp, by simp⟩⟩
theorem CM.build (h : CM w m g l1 f1 va vm als es b iv0 tx L vs w') (hL : L 5 = false) (h4 : L 4 = true) : ∃ iv, vs 4 = ivVal iv ∧ CM w m g l1 f1 va vm als es b iv0 tx (Reg.lay L 5) (Reg.upd vs 5 (nmVal tx iv)) w' := by
  obtain ⟨⟨a1, a2, a3, a4, a5⟩, hb, hc⟩ := h
  have e6 : L 6 = false := not_up a3 hL
  have e7 : L 7 = false := not_up a2 e6
  have e9 : L 9 = false := not_up a1 e7
  obtain ⟨iv, l2, f2, hv, hl, _, _, c7, _, _⟩ := hc h4
  refine ⟨iv, hv, ?_⟩
  unfold CM
  rw [lay_ne (c := 9) (by omega), lay_ne (c := 7) (by omega), lay_ne (c := 6) (by omega), lay_ne (c := 4) (by omega), lay_ne (c := 1) (by omega), lay_eq, upd_eq, upd_ne (c := 4) (by omega), h4, e6, e7, e9]
  exact ⟨⟨by simp, by simp, by simp, by simp, by simp⟩, fun h => (by cases h), fun _ => ⟨iv, l2, f2, hv, hl, fun _ => rfl, by simp, fun _ => c7 e7, by simp, by simp⟩⟩
theorem CM.row (h : CM w m g l1 f1 va vm als es b iv0 tx L vs w') (hL : L 6 = false) (h5 : L 5 = true) : ∃ iv, vs 5 = nmVal tx iv ∧ CM w m g l1 f1 va vm als es b iv0 tx (Reg.lay L 6) (Reg.upd vs 6 (.slice (some ⟨w'.heap.size, 0, none⟩) 1 1)) (w'.alloc (.cells #[.string tx, .bool iv.some, .int .i64 iv.lo, .int .i64 iv.hi] 87)) := by
  obtain ⟨⟨a1, a2, a3, a4, a5⟩, hb, hc⟩ := h
  have e7 : L 7 = false := not_up a2 hL
  have e9 : L 9 = false := not_up a1 e7
  have e4 : L 4 = true := a4 h5
  obtain ⟨iv, l2, f2, hv, hl, c5, _, c7, _, _⟩ := hc e4
  refine ⟨iv, c5 h5, ?_⟩
  have hk : Keeps [] w' (w'.alloc (.cells #[.string tx, .bool iv.some, .int .i64 iv.lo, .int .i64 iv.hi] 87)) := (Keeps.refl _ _).alloc _
  unfold CM
  rw [lay_ne (c := 9) (by omega), lay_ne (c := 7) (by omega), lay_ne (c := 5) (by omega), lay_ne (c := 4) (by omega), lay_ne (c := 1) (by omega), lay_eq, upd_eq, upd_ne (c := 4) (by omega), upd_ne (c := 5) (by omega), h5, e4, e7, e9]
  refine ⟨⟨by simp, by simp, by simp, by simp, by simp⟩, fun h => (by cases h), fun _ => ⟨iv, l2, f2, hv, hl, fun _ => c5 h5, fun _ _ => ⟨_, rfl, fun j u hu => ?_⟩, fun _ => (c7 e7).read ((c7 e7).1.keep hk (by simp) (by simp)) (hk.mono (by simp)), by simp, by simp⟩⟩
  rw [new_cell]
  simpa [nmCells] using hu
theorem CM.app (h : CM w m g l1 f1 va vm als es b iv0 tx L vs w') (hg : g < w.heap.size) (he : es.length ≤ 1000000000) (hL : L 7 = false) (h6 : L 6 = true) (h1 : L 1 = true) (ty : TypeId) :
    ∃ y v1 w1, vs 6 = .slice (some ⟨y, 0, none⟩) 1 1 ∧ (Builtin.append_ #[33, 33] ty #[vm, .slice (some ⟨y, 0, none⟩) 1 1]).run Try.prog w' = .ok v1 w1 ∧ CM w m g l1 f1 va vm als es b iv0 tx (Reg.lay L 7) (Reg.upd vs 7 v1) w1 := by
  obtain ⟨iN, hN, hN0, hN1, hN2⟩ := info_parts infoNm
  obtain ⟨⟨a1, a2, a3, a4, a5⟩, hb, hc⟩ := h
  have e9 : L 9 = false := not_up a1 hL
  have e5 : L 5 = true := a3 h6
  have e4 : L 4 = true := a4 e5
  obtain ⟨iv, l2, f2, hv, hl, c5, c6, c7, _, _⟩ := hc e4
  obtain ⟨y, hy, hcell⟩ := c6 h6 hL
  obtain ⟨s1, s2, s3, s4, ⟨h, A, c, hva, al, hh, hne⟩, s6, s7⟩ := c7 hL
  have hsz := s2.size
  obtain ⟨v1, w1, hrun, q1, q2, _, q4⟩ := run_append_own_at (P := Try.prog) w' (w.heap.size + 2) 33 ty 87 iN (.agg #[.string .empty, .bool false, .int .i64 0, .int .i64 0]) 4 40 Try.underlying33 hN hN0 hN1 hN2 rfl (by decide)
    vm es.length (nmCells es) s6 ⟨y, 0, none⟩ 1 1 (nmCells [⟨tx, iv⟩]) rfl (fun j u hu => by rw [Addr.add_lit, Nat.zero_add]; exact hcell j u hu) (nmCells_one _) (by unfold maxLen; omega) (by omega) (by have := block_lt s4; omega)
  refine ⟨y, v1, w1, hy, hrun, ?_⟩
  have hS : ∀ x ∈ vm.ownBlock.toList, w.heap.size + 2 ≤ x := fun x hx => (s6.lt x (by simpa using hx)).1
  have hk : Keeps vm.ownBlock.toList w' w1 := Keeps.of_grown q2
  have hn : ∀ x, x < w.heap.size + 2 → x ∉ vm.ownBlock.toList := fun x hx hm => by have := hS x hm; omega
  have e : nmCells (es ++ [⟨tx, iv⟩]) = nmCells es ++ nmCells [⟨tx, iv⟩] := by simp [nmCells]
  have hal : AlsIn w1 h A als := by
    by_cases h0 : als = []
    · exact .inl h0
    · exact al.keep hk (fun hm => by rcases hne with h1 | h1
                                     · exact h0 h1
                                     · exact h1 (by simpa using hm))
  have hne' : als = [] ∨ v1.ownBlock ≠ some h := by
    by_cases h0 : als = []
    · exact .inl h0
    · right
      rcases q4 with q4 | q4
      · rw [q4]; exact hne.resolve_left h0
      · rw [q4]
        intro hx
        have hx' : w'.heap.size = h := by simpa using hx
        rcases al with h1 | ⟨off, hA, hc⟩
        · exact h0 h1
        · have := World.block_lt_of_cell? w' _ (hc 0 (List.length_pos_iff.2 h0)).1
          simp at this; omega
  have h7 : SQ7 w w1 m g l2 f2 va vm v1 als es ⟨tx, iv⟩ b iv0 := ⟨s1.keep hk (hn _ (by omega)) (hn _ (by omega)), s2.trans hk (fun x hx hl => by have := hS x hx; omega), block_keep s3 hk (hn _ (by omega)), block_keep s4 hk (hn _ (by omega)),
    ⟨h, A, c, hva, hal, hh, hne'⟩, by rw [e, List.length_append]; exact q1, s7, hg, own_sl s6⟩
  unfold CM
  rw [lay_ne (c := 9) (by omega), lay_ne (c := 6) (by omega), lay_ne (c := 5) (by omega), lay_ne (c := 4) (by omega), lay_ne (c := 1) (by omega), lay_eq, upd_eq, upd_ne (c := 4) (by omega), upd_ne (c := 5) (by omega), upd_ne (c := 6) (by omega), e5, e4, e9, h6, h1]
  exact ⟨⟨by simp, by simp, by simp, by simp, by simp⟩, fun h => (by cases h), fun _ => ⟨iv, l2, f2, hv, hl, fun _ => c5 e5, fun _ h => (by cases h), fun h => (by cases h), fun _ _ => h7, fun h => (by cases h)⟩⟩
theorem CM.put (h : CM w m g l1 f1 va vm als es b iv0 tx L vs w') (hL : L 9 = false) (h7 : L 7 = true) : (∃ A c, vs 7 = .slice A (es.length + 1) c) ∧ ∀ u, CM w m g l1 f1 va vm als es b iv0 tx (Reg.lay L 9) (Reg.upd vs 9 u) (w'.setCell ⟨w.heap.size + 1, 5, none⟩ (vs 7)) := by
  obtain ⟨⟨a1, a2, a3, a4, a5⟩, hb, hc⟩ := h
  have e6 : L 6 = true := a2 h7
  have e5 : L 5 = true := a3 e6
  have e4 : L 4 = true := a4 e5
  obtain ⟨iv, l2, f2, hv, hl, c5, _, _, c8, _⟩ := hc e4
  obtain ⟨s1, s2, s3, s4, ⟨h, A, c, hva, al, hh, hne⟩, s6, s7, s8, _⟩ := c8 h7 hL
  refine ⟨by have := own_sl s6; simpa using this, fun u => ?_⟩
  have hst : Keeps [w.heap.size + 1] w' (w'.setCell ⟨w.heap.size + 1, 5, none⟩ (vs 7)) := (Keeps.refl _ _).setCell (by simp) _
  have hq : SQ w (w'.setCell ⟨w.heap.size + 1, 5, none⟩ (vs 7)) m g l2 f2 va (vs 7) als (es ++ [⟨tx, iv⟩]) b iv0 := ⟨s1.keep hst (by simp; omega) (by simp; omega), s2.trans hst (fun x hx hl => by simp at hx; omega), block_keep s3 hst (by simp), row_set s4 5 (vs 7),
    ⟨h, A, c, hva, al.keep hst (by simp; omega), hh, hne⟩, owned_keep s6 hst (fun k hv => by have := (s6.lt k hv).1; simp; omega), s7⟩
  unfold CM
  rw [lay_ne (c := 7) (by omega), lay_ne (c := 6) (by omega), lay_ne (c := 5) (by omega), lay_ne (c := 4) (by omega), lay_ne (c := 1) (by omega), lay_eq, upd_ne (c := 4) (by omega), upd_ne (c := 5) (by omega), upd_ne (c := 6) (by omega), upd_ne (c := 7) (by omega), e4, h7, e6]
  exact ⟨⟨by simp, by simp, by simp [e5], by simp, fun _ => a5 h7⟩, fun h => (by cases h), fun _ => ⟨iv, l2, f2, hv, hl, fun _ => c5 e5, fun _ h => (by cases h), fun h => (by cases h), fun _ h => (by cases h), fun _ => hq⟩⟩
end
end Go.Proofs.Ytohmadfaaonaaaa
