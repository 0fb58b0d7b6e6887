/- l2; choosing blocks; a writer beside a slice of bytes. -/
import Derived.Test.YtohmadfaaonaaaaCLight
import Derived.Test.YtohmadfaaonaaaaCSumX
namespace Go.Proofs.Ytohmadfaaonaaaa
open Go.RowKit
open Reg (Is Fact)

theorem fresh_num (S : List Nat) : ∃ n, n ∉ S := by
  refine ⟨S.sum + 1, fun hm => ?_⟩
  have : ∀ (l : List Nat) x, x ∈ l → x ≤ l.sum := by
    intro l
    induction l with
    | nil => intro x hx; cases hx
    | cons a r ih =>
      intro x hx
      rcases List.mem_cons.1 hx with h | h
      · subst h; simp
      · have := ih x h; simp; omega
  have := this S _ hm
  omega
theorem AlsIn.pick {w wk : World} {h : Nat} {A : Option Addr} {als : List Al} {S : List Nat} (a : AlsIn w h A als) (hk : Keeps [] w wk) (hS : ∀ x ∈ S, w.heap.size ≤ x) : ∃ h', AlsIn wk h' A als ∧ h' ∉ S := by
  rcases a with h0 | ⟨off, hA, hc⟩
  · obtain ⟨n, hn⟩ := fresh_num S
    exact ⟨n, .inl h0, hn⟩
  · by_cases hl : 0 < als.length
    · have hb : h < w.heap.size := World.block_lt_of_cell? w _ (hc 0 hl).1
      exact ⟨h, (show AlsIn w h A als from .inr ⟨off, hA, hc⟩).keep hk (by simp), fun hm => by have := hS h hm; omega⟩
    · obtain ⟨n, hn⟩ := fresh_num S
      exact ⟨n, .inl (List.eq_nil_of_length_eq_zero (by omega)), hn⟩
theorem NmsIn.pick {w wk : World} {h : Nat} {A : Option Addr} {ms : List Nm} {S : List Nat} (a : NmsIn w h A ms) (hk : Keeps [] w wk) (hS : ∀ x ∈ S, w.heap.size ≤ x) : ∃ h', NmsIn wk h' A ms ∧ h' ∉ S := by
  rcases a with h0 | ⟨off, hA, hc⟩
  · obtain ⟨n, hn⟩ := fresh_num S
    exact ⟨n, .inl h0, hn⟩
  · by_cases hl : 0 < ms.length
    · have hb : h < w.heap.size := World.block_lt_of_cell? w _ (hc 0 hl).1
      exact ⟨h, (show NmsIn w h A ms from .inr ⟨off, hA, hc⟩).keep hk (by simp), fun hm => by have := hS h hm; omega⟩
    · obtain ⟨n, hn⟩ := fresh_num S
      exact ⟨n, .inl (List.eq_nil_of_length_eq_zero (by omega)), hn⟩

/-- A writer at p has Lw, a slice v of bytes reads as Lv; both are made behind w, apart from one another. -/
def WS (w wk : World) (p g : Nat) (S : List Nat) (v : Value) (Lw Lv : List UInt8) : Prop :=
  WrAt wk p g Lw ∧ BufAt wk S v Lv ∧ (∀ x ∈ S, w.heap.size ≤ x ∧ x ≠ p ∧ x ≠ g) ∧ (S = [] → Lv = []) ∧ Keeps [] w wk ∧ w.heap.size ≤ p ∧ w.heap.size ≤ g
section
variable {w wk w' : World} {p g : Nat} {S : List Nat} {v v' : Value} {Lw Lv L' : List UInt8}
theorem WS.put (h : WS w wk p g S v Lw Lv) (hg : Grew wk S L' (.returned v') w') : ∃ g', WS w w' p g [g'] v' Lw L' := by
  obtain ⟨h1, h2, h3, h4, h5, h6, h7⟩ := h
  obtain ⟨v2, g', he, q1, q2, q3⟩ := hg
  cases he
  have hlt := h1.lt
  have hs := h5.size
  refine ⟨g', h1.keep q3 (fun hm => (h3 p hm).2.1 rfl) (fun hm => (h3 g hm).2.2 rfl), q1.buf, fun x hx => ?_, fun h => (by cases h), h5.trans q3 (fun x hx hl => ?_), h6, h7⟩
  · obtain rfl : x = g' := by simpa using hx
    rcases q2 with q2 | q2
    · exact h3 x q2
    · omega
  · have := (h3 x hx).1; omega
theorem WS.wrote (h : WS w wk p g S v Lw Lv) (hu : ∃ g', WrAt w' p g' L' ∧ (g' = g ∨ wk.heap.size ≤ g') ∧ Keeps [p, g] wk w') : ∃ g', WS w w' p g' S v L' Lv := by
  obtain ⟨h1, h2, h3, h4, h5, h6, h7⟩ := h
  obtain ⟨g', u1, u2, u3⟩ := hu
  have hs := h5.size
  have hlt := h2.lt
  refine ⟨g', u1, h2.keep u3 (fun x hx => ?_) (fun x hx A gg hS _ _ hpos => ?_), fun x hx => ?_, h4, h5.trans u3 (fun x hx hl => ?_), h6, by omega⟩
  · have := h3 x hx; simp; omega
  · have := h4 hS; rw [this] at hpos; simp at hpos
  · have := h3 x hx; have := hlt x hx; omega
  · simp at hx; omega
theorem WS.keep (h : WS w wk p g S v Lw Lv) (hk : Keeps [] wk w') : WS w w' p g S v Lw Lv :=
  ⟨h.1.keep hk (by simp) (by simp), h.2.1.keep0 hk, h.2.2.1, h.2.2.2.1, h.2.2.2.2.1.trans hk (by simp), h.2.2.2.2.2⟩
end

/-! ### l2 -/
theorem infoStr : (Try.prog.info? 9).map (fun i => (i.zero, i.size, i.bytes)) = some (some (.string .empty), 1, 16) := by kernel_rfl
def TextsAt (w : World) (ss : List ByteArray) (e : Ending) (w' : World) : Prop := ∃ A cap h, e = .returned (.slice A ss.length cap) ∧ CellsIn w' h A (texts ss) ∧ w.heap.size ≤ h ∧ Keeps [] w w'
theorem texts_one (ss : List ByteArray) : ∀ u ∈ texts ss, u.oneCell' = true := by
  intro u hu
  obtain ⟨_, _, rfl⟩ := List.mem_map.1 hu
  rfl
set_option maxHeartbeats 1000000 in
set_option maxRecDepth 100000 in
theorem l2_any (w : World) (h : Nat) (A : Option Addr) (cap : Nat) (ps : List Pt) (hr : PartsIn w h A ps) (hl : ps.length ≤ 12) :
    Calls Try.prog 18 #[.slice A ps.length cap] w (TextsAt w (ps.map (·.t))) := by
  obtain ⟨i0, hi, hz0, hz1, hz2⟩ := info_parts infoStr
  have HR := Lib.hid hr
  clear hr
  go_enter Try.func18, Try.ntmps18
  go_wp2
  go_loopw [3, 4] (fun v i wr => ∃ k : Nat, k ≤ ps.length ∧ i = .int .i64 k ∧ wr.ownsRow w.heap.size 9 1 v k (texts ((ps.map (·.t)).take k)) ∧ Keeps [] w wr) (fun _ i _ => ps.length - (intOf i).toNat)
  case atStart => exact ⟨0, Nat.zero_le _, rfl, World.ownsRow_nil _ _ _ _, Keeps.refl _ _⟩
  case round =>
    obtain ⟨k, hk, rfl, ho, hkp⟩ := hrel
    have HO := Lib.hid ho
    have HK := Lib.hid hkp
    clear ho hkp
    by_cases hlt : k < ps.length
    · rcases HR.out with h0 | ⟨off, rfl, hcell⟩
      · rw [h0] at hlt; simp at hlt
      · have hc := (hcell k hlt).keep HK.out
        have HTK := Lib.hid (List.take_succ_eq_append_getElem hlt)
        obtain ⟨p, hp⟩ : ∃ p, p = ps[k] := ⟨_, rfl⟩
        rw [← hp] at hc HTK
        obtain ⟨h1, h2, Aa, ca, Am, cm, _, _, c2, _⟩ := hc
        have HN := Lib.hid (show texts ((ps.map (·.t)).take k) ++ [.string p.t] = texts ((ps.map (·.t)).take (k + 1)) by rw [← List.map_take, ← List.map_take, HTK.out]; simp [texts])
        clear hcell hp
        go_wp2_with (at_builtin; refine wpList_append_own_at _ rfl _ _ 47 rfl w.heap.size 9 i0 (.string .empty) 1 16 Try.underlying47 hi hz0 hz1 hz2 rfl (by decide) _ k _ rfl (HO.out.alloc _) ⟨wr.heap.size, 0, none⟩ 1 1 [.string p.t] rfl rfl (cell_one_new _ _ _) (texts_one [p.t]) ?qa3 ?qa4 ?qa5 ?_)
        case qa3 => unfold maxLen; omega
        case qa4 => omega
        case qa5 => have := HK.out.size; simp; omega
        intro v1 w1 q1 q2 _ q3
        rw [HN.out] at q1
        obtain ⟨A1, c1, rfl⟩ := own_any q1
        have HQ1 := Lib.hid q1
        have HQ3 : Hid (Keeps [] w w1) := Lib.hid ((HK.out.trans ((Keeps.refl [] wr).alloc _) (by simp)).trans (Keeps.of_grown q2) (fun x hx hlx => by
          have := (HO.out.lt x (by simpa using hx)).1
          omega))
        clear q1 q2 q3
        go_wp2
        go_roundw
        case rel => exact ⟨k + 1, by omega, by go_num, HQ1.out, HQ3.out⟩
        case measure => simp [intOf]; omega
    · have hfin : TextsAt w (ps.map (·.t)) (.returned u3) wr := by
        have ho := HO.out
        rw [List.take_of_length_le (by rw [List.length_map]; omega), show k = ps.length by omega] at ho
        rcases ho.2 with ⟨hv, h0⟩ | ⟨g', cap', cur, hv, hb, hg, hle, hm, hsz, htake⟩
        · have hps : ps = [] := List.eq_nil_of_length_eq_zero h0
          subst hps
          exact ⟨none, 0, w.heap.size, by rw [hv]; rfl, .inl rfl, Nat.le_refl _, HK.out⟩
        · refine ⟨some ⟨g', 0, none⟩, cap', g', by rw [hv, List.length_map], .inr ⟨0, rfl, fun j hj => ?_⟩, hb, HK.out⟩
          have := ho.cells (g := g') (by rw [hv]; rfl) j _ (List.getElem?_eq_getElem hj)
          rwa [Addr.add_lit] at this
      have HFIN := Lib.hid hfin
      clear hfin
      go_wp2
      go_ret
      exact HFIN.out
end Go.Proofs.Ytohmadfaaonaaaa
