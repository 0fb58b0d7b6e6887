/- Bytes that a read made and that may be stored into; Place. -/
import Derived.Test.YtgjgnieobbhepaaDoorWLawC
namespace Go.Proofs.YtgjgnieobbhepaaDoor
open Go.RowKit
open Reg (Is Fact CB)

/-- Bytes in block g that may be stored into. -/
def RowS (w : World) (g : Nat) (l : List UInt8) : Prop := ∃ cur, w.heap[g]? = some (.cells cur 5 (0, 0)) ∧ ∀ k (h : k < l.length), cur[k]? = some (.int .u8 ((l[k].toNat : Nat) : Int))
theorem RowS.bytes {w : World} {g : Nat} {l : List UInt8} (h : RowS w g l) : BytesIn w g (some ⟨g, 0, none⟩) l := by
  obtain ⟨cur, h1, h2⟩ := h
  exact .inr ⟨0, rfl, fun k hk => by rw [Nat.zero_add, row_cell h1]; exact h2 k hk⟩
theorem RowS.keep {S : List Nat} {w w' : World} {g : Nat} {l : List UInt8} (h : RowS w g l) (hk : Keeps S w w') (hn : g ∉ S) : RowS w' g l := by
  obtain ⟨cur, h1, h2⟩ := h
  exact ⟨cur, block_keep h1 hk hn, h2⟩
theorem RowS.free {w : World} {g : Nat} {l : List UInt8} (h : RowS w g l) (j : Nat) : w.frozen? ⟨g, j, none⟩ = false := by
  obtain ⟨cur, h1, _⟩ := h
  exact row_free h1 j
theorem RowS.cell {w : World} {g : Nat} {l : List UInt8} (h : RowS w g l) {k : Nat} (hk : k < l.length) : w.cell? ⟨g, k, none⟩ = some (.int .u8 ((l[k].toNat : Nat) : Int)) := by
  obtain ⟨cur, h1, h2⟩ := h
  rw [row_cell h1]; exact h2 k hk
theorem RowS.put {w : World} {g : Nat} {l : List UInt8} (h : RowS w g l) (j : Nat) (z : Int) (h0 : 0 ≤ z) (h1 : z < 256) : ∃ l' : List UInt8, l'.length = l.length ∧ RowS (w.setCell ⟨g, j, none⟩ (.int .u8 z)) g l' := by
  obtain ⟨cur, e1, e2⟩ := h
  refine ⟨l.set j (UInt8.ofNat z.toNat), by simp, cur.setIfInBounds j (.int .u8 z), row_set e1 j _, fun k hk => ?_⟩
  have hk' : k < l.length := by simpa using hk
  have hc := e2 k hk'
  have hks : k < cur.size := (Array.getElem?_eq_some_iff.1 hc).1
  by_cases hjk : j = k
  · subst hjk
    rw [Array.getElem?_setIfInBounds_self_of_lt hks]
    simp only [List.getElem_set_self]
    rw [L.ofNat_toNat]
    congr 2; omega
  · rw [Array.getElem?_setIfInBounds_ne hjk, hc]
    simp [List.getElem_set, hjk]
set_option maxHeartbeats 400000 in
theorem clone_row (w : World) (g : Nat) (a : Addr) (l : List UInt8) (cap : Nat) (hr : BytesIn w g (some a) l) (hl : l.length ≤ 140737488355328) :
    Calls Tryd.prog 40 #[.slice (some a) l.length cap] w fun e w' => ∃ g' cap', e = .returned (.slice (some ⟨g', 0, none⟩) l.length cap') ∧ RowS w' g' l ∧ w.heap.size ≤ g' ∧ l.length ≤ cap' ∧ Keeps [] w w' := by
  have q22 : ∀ (w : World) (a : Option Addr) (n c n' c' : Nat), (binOp .eql 34 (.slice a n c) (.slice none n' c')).run Tryd.prog w = .ok (.bool a.isNone) w := fun w a n c n' c' => Lib.run_eql_slice_nil w _ _ a n c n' c' Tryd.underlying34
  obtain ⟨i0, hi, hz0, hz1, hz2⟩ := info_parts infoU8
  have HR := Lib.hid hr
  clear hr
  go_enter Tryd.func40, Tryd.ntmps40
  go_wp2_with (at_builtin; refine wpList_append_own _ rfl _ _ 34 rfl w.heap.size 5 i0 (.int .u8 0) 1 1 Tryd.underlying34 hi hz0 hz1 hz2 rfl (by decide) _ _ _ rfl (World.ownsRow_made w #[] 0 (Nat.le_refl _) (Nat.zero_le _) rfl) a l.length cap (u8s l) rfl ?qc1 ?qc2 ?qc3 ?qc4 ?qc5 ?qc6 ?_)
  case qc1 => simp [u8s]
  case qc2 =>
    intro j u hj
    have hjl : j < l.length := by
      have := (List.getElem?_eq_some_iff.1 hj).1
      simpa [u8s] using this
    rcases HR.out with h | ⟨off, h, hc⟩
    · subst h; simp at hjl
    · obtain rfl := Option.some.inj h
      have h1 := hc j hjl
      rw [u8s_get hjl] at hj
      obtain rfl := Option.some.inj hj
      rw [Addr.add_lit]
      exact ((Keeps.refl [] w).alloc _).cell_some h1 (by simp)
  case qc3 => exact u8s_one l
  case qc4 => unfold maxLen; omega
  case qc5 => omega
  case qc6 => simp
  intro v' w' h1 h2 h3
  have H1 := Lib.hid h1
  have H2 := Lib.hid h2
  have H3 := Lib.hid h3
  clear h1 h2 h3
  obtain ⟨g', cap', hv, hg', hc', hm'⟩ : ∃ g' cap', v' = .slice (some ⟨g', 0, none⟩) l.length cap' ∧ w.heap.size ≤ g' ∧ l.length ≤ cap' ∧ cap' ≤ maxLen := by
    rcases own_form H1.out with ⟨h, _⟩ | h
    · exact (H3.out h).elim
    · simpa using h
  subst hv
  have HROW := Lib.hid (show RowS w' g' l by
    have h1 := H1.out
    rcases h1.2 with ⟨h, _⟩ | ⟨g2, cp2, cur, hv2, hb2, hg2, hn2, hm2, hs2, ht2⟩
    · exact (H3.out h).elim
    · injection hv2 with ha _ _
      have hgg : g' = g2 := by
        have := Option.some.inj ha
        injection this
      subst hgg
      refine ⟨cur, hg2, fun k hk => ?_⟩
      have h9 : (cur.toList.take (l.length * 1))[k]? = (u8s l)[k]? := by
        have := congrArg (fun z => z[k]?) ht2
        simpa using this
      rw [List.getElem?_take_of_lt (by omega), u8s_get hk] at h9
      simpa using h9)
  go_wp2
  go_ret
  refine ⟨g', _, rfl, HROW.out, hg', hc', ?_⟩
  exact ((Keeps.refl [] w).alloc _).trans (Keeps.of_grown H2.out) (fun i hi hl => by
    have : i = w.heap.size := by simpa [Value.ownBlock] using hi
    omega)
set_option maxHeartbeats 800000 in
theorem read_row (w : World) (h : DH) (B : Nat → Prop) (d : Dk) (x : DskAt w h B d) (hd : d.dead = false) (n : Nat) (hn : n < d.dur.length) : Calls Tryd.prog 25 #[.pointer (some ⟨h.p, 0, none⟩), .int .i64 (n : Int)] w fun e w' =>
    ∃ g cap b, e = .returned (.tuple #[.slice (some ⟨g, 0, none⟩) d.size cap, .int .i64 0]) ∧ b.length = d.size ∧ RowS w' g b ∧ w.heap.size ≤ g ∧ d.size ≤ cap ∧ Keeps [] w w' := by
  obtain ⟨cap, _, c1, c2, c3, _⟩ := x.cells
  have HX := Lib.hid x
  have hh : d.has (n : Int) = true := (d.has_iff n).2 ⟨by omega, by omega⟩
  rw [hd] at c3
  have hlen : (d.last n).length = d.size := Dk.last_len x.ok hn
  have hsz := x.ok.size
  have HH := Lib.hid hh
  have HL := Lib.hid hlen
  clear x hd hh hlen
  go_enter Tryd.func25, Tryd.ntmps25
  go_wp2_with fail
  refine (has_any w h B d HX.out (n : Int)).mono ?_
  rintro e w' ⟨rfl, rfl⟩
  rw [HH.out]
  go_wp2_with fail
  refine (last_any w h B d HX.out n hn).mono ?_
  rintro e w' ⟨v, rfl, ⟨g, off, cp, rfl, hb, _⟩, rfl⟩
  have HB := Lib.hid hb
  clear hb
  go_wp2_with fail
  refine (clone_row w g _ _ cp HB.out (by have := HL.out; omega)).mono ?_
  rintro e w' ⟨g', cap', rfl, hrow, hg', hcap', hk⟩
  rw [HL.out] at hcap' ⊢
  have HROW := Lib.hid hrow
  have HK := Lib.hid hk
  clear hrow hk
  go_wp2_with fail
  go_ret2
  exact ⟨g', cap', _, rfl, HL.out, HROW.out, hg', hcap', HK.out⟩
theorem place_any (w : World) (k n : Nat) (hk : k ≤ 1000000) (hn : 0 < n ∧ n ≤ 1000000) : Calls Tryd.prog 24 #[.int .i64 (k : Int), .int .i64 (n : Int)] w fun e w' => e = .returned (.int .i64 ((k % n : Nat) : Int)) ∧ Keeps [] w w' := by
  have e1 : ((n : Int) == 0) = false := by simp; omega
  have hm : k % n < n := Nat.mod_lt _ hn.1
  obtain ⟨m, hmm⟩ : ∃ m, m = k % n := ⟨_, rfl⟩
  have e2 : (k : Int) % (n : Int) = (m : Int) := by rw [hmm]; rfl
  have e3 : (k : Int).tmod (n : Int) = (m : Int) := by rw [hmm]; rfl
  rw [← hmm] at hm ⊢
  clear hmm
  go_enter Tryd.func24, Tryd.ntmps24
  go_wp2_with fail
  go_ret
  exact ⟨rfl, Keeps.refl _ _⟩
end Go.Proofs.YtgjgnieobbhepaaDoor
