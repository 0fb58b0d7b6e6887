/- SumTurned: a bit turned, and up to three of them, in at most 500 bytes, change the checksum; the fingerprint of the changed bytes is the reference's. -/
import Derived.Test.YtfkkbpiphcpljaaDoorTwo
import Derived.Test.YtfkkbpiphcpljaaDoorFlip
import Derived.Laws.BitsAllLaws
import Derived.IntWalk
namespace Go.Proofs.YtfkkbpiphcpljaaDoor.sumTurned
open Go.ChangeShapes Go.WideShapes Go.ChangeAt Go.RowKit
open B (StrsAt texts)
open Two (lay_ne lay_self upd_ne upd_self)
open Reg (lay upd Gives Is Fact)
open sumParts (Row crc_one rows_of strs_of strOf_size)

attribute [local go_sem] Reg.lateFr Reg.wantedV Reg.gives_value Reg.gives_skip Reg.gives_enter

/-- The cells of bytes. -/
def cellsOf (l : List UInt8) : List Value := l.map fun b => .int .u8 (b.toNat : Nat)
theorem bytes_info : (Tryd.prog.info? 5).map (fun i => (i.zero, i.size, i.bytes)) = some (some (.int .u8 0), 1, 1) := by kernel_rfl

/-- Block g is a row of the call's own whose first cells are the bytes cl. -/
def Own (w : World) (B g n c : Nat) (cl : List UInt8) : Prop := B ≤ g ∧ cl.length = n ∧ n ≤ c ∧ ∃ cur : Array Value, w.heap[g]? = some (.cells cur 5 (0, 0)) ∧ cur.size = c ∧ cur.toList.take n = cellsOf cl
theorem Own.of_row {w : World} {B : Nat} {v : Value} {n : Nat} {cl : List UInt8} (h : w.ownsRow B 5 1 v n (cellsOf cl)) (hn : 0 < n) (hc : cl.length = n) : ∃ g c, v = .slice (some ⟨g, 0, none⟩) n c ∧ Own w B g n c cl := by
  rcases h.2 with ⟨_, h0⟩ | ⟨g, cap, cur, rfl, hb, hg, hle, hm, hsz, htake⟩
  · omega
  · exact ⟨g, cap, rfl, hb, hc, hle, cur, hg, by simpa using hsz, by simpa using htake⟩
theorem Own.get {w : World} {B g n c : Nat} {cl : List UInt8} (h : Own w B g n c cl) {j : Nat} (hj : j < cl.length) : w.cell? ⟨g, j, none⟩ = some (.int .u8 ((cl[j].toNat : Nat) : Int)) := by
  obtain ⟨_, hn, hle, cur, hg, hsz, ht⟩ := h
  rw [cell_of_row w g j cur _ (0, 0) hg]
  have h1 : (cur.toList.take n)[j]? = (cellsOf cl)[j]? := by rw [ht]
  rw [List.getElem?_take_of_lt (by omega)] at h1
  simpa [cellsOf, hj] using h1
theorem Own.free {w : World} {B g n c : Nat} {cl : List UInt8} (h : Own w B g n c cl) (j : Nat) : w.frozen? ⟨g, j, none⟩ = false := by
  obtain ⟨_, _, _, cur, hg, _, _⟩ := h
  simp [World.frozen?, hg]
theorem Own.bytes {w : World} {B g n c : Nat} {cl : List UInt8} (h : Own w B g n c cl) : BytesAt w (some ⟨g, 0, none⟩) cl :=
  .inr ⟨g, 0, rfl, fun k hk => by rw [Nat.zero_add]; exact h.get hk⟩
theorem Own.keep {w w' : World} {B g n c : Nat} {cl : List UInt8} (h : Own w B g n c cl) (hb : Below w.heap.size w w') : Own w' B g n c cl := by
  obtain ⟨h1, h2, h3, cur, hg, h5, h6⟩ := h
  exact ⟨h1, h2, h3, cur, (hb.block g (Array.getElem?_eq_some_iff.1 hg).1).trans hg, h5, h6⟩
theorem Own.set {w : World} {B g n c : Nat} {cl : List UInt8} (h : Own w B g n c cl) {j : Nat} (_hj : j < cl.length) (x : UInt8) : Own (w.setCell ⟨g, j, none⟩ (.int .u8 ((x.toNat : Nat) : Int))) B g n c (cl.set j x) := by
  obtain ⟨h1, h2, h3, cur, hg, h5, h6⟩ := h
  refine ⟨h1, by simpa using h2, h3, cur.setIfInBounds j (.int .u8 ((x.toNat : Nat) : Int)), ?_, by simpa using h5, ?_⟩
  · simp [World.setCell, Array.getElem?_modify, hg]
  · rw [Array.toList_setIfInBounds, List.take_set, h6]
    simp [cellsOf, List.map_set]

theorem print_one {w : World} {g c : Nat} {l1 : List UInt8} (hc : ∀ j, w.cell? ⟨g, j, none⟩ = (#[.string (strOf l1)] : Array Value)[j]?) (m1 : l1.length ≤ maxLen) :
    Calls Tryd.prog 11 #[.slice (some ⟨g, 0, none⟩) 1 c] w fun e w' => e = .returned (.int .u64 ((M.fnv [l1] : Nat) : Int)) ∧ w = w' :=
  B.print_any (some ⟨g, 0, none⟩) [strOf l1] c w (by simp [maxLen]) (strs_of hc fun j hj => match j, hj with
    | 0, _ => ⟨rfl, by show (strOf l1).size ≤ _; rw [strOf_size]; exact m1⟩)
theorem refPrint_one {w : World} {g c : Nat} {l1 : List UInt8} (hc : ∀ j, w.cell? ⟨g, j, none⟩ = (#[.string (strOf l1)] : Array Value)[j]?) (m1 : l1.length ≤ maxLen) :
    Calls Tryd.prog 13 #[.slice (some ⟨g, 0, none⟩) 1 c] w fun e w' => e = .returned (.int .u64 ((M.fnv [l1] : Nat) : Int)) ∧ w = w' :=
  refPrint_any (some ⟨g, 0, none⟩) [strOf l1] c w (by simp [maxLen]) (strs_of hc fun j hj => match j, hj with
    | 0, _ => ⟨rfl, by show (strOf l1).size ≤ _; rw [strOf_size]; exact m1⟩)
theorem str_ne {l1 l2 : List UInt8} (h : l1 ≠ l2) : ((strOf l1).toList == (strOf l2).toList) = false := by
  rw [beq_eq_false_iff_ne, ByteArray.toList_eq, ByteArray.toList_eq]
  exact h

/-- One store at the end of a statement whose order is drawn: till then the world is W, behind it W'. -/
structure SInv (E : Nat → Option Value) (iL iX iS : Nat) (W W' : World) (L : Nat → Bool) (vs : Nat → Value) (w : World) : Prop where
  pure : ∀ m u, E m = some u → L m = true → vs m = u
  ordX : L iX = true → L iL = true
  ordS : L iS = true → L iX = true
  bef : L iS = false → w = W
  aft : L iS = true → w = W'
section
variable {E : Nat → Option Value} {iL iX iS : Nat} {W W' : World} {L : Nat → Bool} {vs : Nat → Value} {w : World}
theorem SInv.step (h : SInv E iL iX iS W W' L vs w) {i : Nat} {u : Value} (hE : E i = some u) (hS : i ≠ iS) (hX : i = iX → iL ≠ iX ∧ L iL = true) (_hXS : iX ≠ iS) (_hLi : L i = false) : SInv E iL iX iS W W' (lay L i) (upd vs i u) w := by
  refine ⟨fun m u' hm hl => ?_, fun hl => ?_, fun hl => ?_, (fun hl => h.bef (by rwa [lay_ne (Ne.symm hS)] at hl)), (fun hl => h.aft (by rwa [lay_ne (Ne.symm hS)] at hl))⟩
  · by_cases hmi : m = i
    · subst hmi; rw [upd_self]; rw [hE] at hm; exact Option.some.inj hm
    · rw [upd_ne hmi]; rw [lay_ne hmi] at hl; exact h.pure m u' hm hl
  · by_cases hxi : iX = i
    · obtain ⟨h1, h2⟩ := hX hxi.symm
      rw [lay_ne (by rw [← hxi]; exact h1)]; exact h2
    · rw [lay_ne hxi] at hl
      have := h.ordX hl
      simp [lay, this]
  · rw [lay_ne (Ne.symm hS)] at hl
    have := h.ordS hl
    simp [lay, this]
theorem SInv.before (h : SInv E iL iX iS W W' L vs w) (hL : L iL = false) : w = W := by
  refine h.bef ?_
  rcases hs : L iS with _ | _
  · rfl
  · have := h.ordX (h.ordS hs)
    rw [hL] at this
    cases this
theorem SInv.store (h : SInv E iL iX iS W W' L vs w) (hE : E iS = none) (_hS : L iS = false) (hX : L iX = true) (hLS : iL ≠ iS) (hXS : iX ≠ iS) (v : Value) : SInv E iL iX iS W W' (lay L iS) (upd vs iS v) W' := by
  refine ⟨fun m u hm hl => ?_, fun hl => ?_, (fun _ => by rw [lay_ne hXS]; exact hX), (fun hl => by rw [lay_self] at hl; cases hl), fun _ => rfl⟩
  · have hmi : m ≠ iS := fun e => by rw [e, hE] at hm; cases hm
    rw [upd_ne hmi]; rw [lay_ne hmi] at hl; exact h.pure m u hm hl
  · rw [lay_ne hXS] at hl
    rw [lay_ne hLS]; exact h.ordX hl
theorem SInv.start {n : Nat} (_h1 : iL < n) (h2 : iX < n) (h3 : iS < n) (hE : ∀ m, n ≤ m → E m = none) : SInv E iL iX iS W W' (fun k => decide (n ≤ k)) vs W := by
  refine ⟨(fun m u hm hl => by rw [hE m (by simpa using hl)] at hm; cases hm), fun hl => ?_, fun hl => ?_, fun _ => rfl, fun hl => ?_⟩
  all_goals (simp at hl; omega)
end

/-- What the 17 operations of 'c[int(i)%n/8] ^= 1 << (int(i)%n%8)' yield. -/
def flipE (c : Value) (i : Nat) (N : Int) (p q r : Nat) (old pw new : Nat) (ad : Value) : Nat → Option Value
  | 0 => some c | 1 => some (.int .u16 i) | 2 => some (.int .i64 i) | 3 => some (.int .i64 N) | 4 => some (.int .i64 p) | 5 => some (.int .i64 q) | 6 => some ad | 7 => some (.int .u8 old)
  | 8 => some (.int .u16 i) | 9 => some (.int .i64 i) | 10 => some (.int .i64 N) | 11 => some (.int .i64 p) | 12 => some (.int .i64 r) | 13 => some (.int .u8 pw) | 14 => some (.int .u8 new) | 15 => some ad | _ => none
theorem wrap_facts {i n p q r pw : Nat} (hi : i < 65536) (hn : 0 < n) (hp : (i : Int) % (8 * (n : Int)) = (p : Int)) (hq : (p : Int) / 8 = (q : Int)) (hr : (p : Int) % 8 = (r : Int)) (hpw : pw = 2 ^ r) (lp : pw < 256) :
    IntKind.i64.wrap (i : Int) = (i : Int) ∧ (i : Int).tmod (8 * (n : Int)) = (p : Int) ∧ (8 * (n : Int) = 0) = False ∧ IntKind.i64.wrap (q : Int) = (q : Int) ∧ (p : Int).tmod 8 = (r : Int) ∧ IntKind.u8.wrap ((2 : Int) ^ r) = (pw : Int) := by
  have hpi : p ≤ i := by
    have h1 : ((i % (8 * n) : Nat) : Int) = (p : Int) := by rw [← hp]; simp
    have h2 : i % (8 * n) = p := by omega
    rw [← h2]; exact Nat.mod_le _ _
  refine ⟨IntWalk.i64_in _ ⟨by omega, by omega⟩, ?_, eq_false (by omega), IntWalk.i64_in _ ⟨by omega, by omega⟩, ?_, ?_⟩
  · rw [Int.tmod_eq_emod_of_nonneg (by omega)]; exact hp
  · rw [Int.tmod_eq_emod_of_nonneg (by omega)]; exact hr
  · rw [IntKind.wrap_u8']
    have h2 : ((2 : Int) ^ r) = (pw : Int) := by rw [hpw]; simp
    rw [h2]
    omega
theorem flip_facts (l : List UInt8) (i n : Nat) (hn : n = l.length) (h0 : 0 < n) : ∃ p q r old pw new : Nat, p < 8 * n ∧ q < l.length ∧ r < 8 ∧ (i : Int) % (8 * (n : Int)) = (p : Int) ∧ (p : Int) / 8 = (q : Int) ∧ (p : Int) % 8 = (r : Int) ∧
    old = (l.getD q 0).toNat ∧ pw = 2 ^ r ∧ bits .xor .u8 (old : Int) (pw : Int) = (new : Int) ∧ new = ((M.flip l p).getD q 0).toNat ∧ old < 256 ∧ pw < 256 ∧ new < 256 ∧ M.flip l p = l.set q (UInt8.ofNat new) := by
  have hp : i % (8 * n) < 8 * n := Nat.mod_lt _ (by omega)
  have hq : i % (8 * n) / 8 < l.length := by omega
  have h2 : 2 ^ (i % (8 * n) % 8) < 256 := M.pow_small _
  have ho := M.u8_lt (l.getD (i % (8 * n) / 8) 0)
  have hx : (l.getD (i % (8 * n) / 8) 0 ^^^ UInt8.ofNat (2 ^ (i % (8 * n) % 8))).toNat = (l.getD (i % (8 * n) / 8) 0).toNat ^^^ 2 ^ (i % (8 * n) % 8) := by
    rw [UInt8.toNat_xor, UInt8.toNat_ofNat']
    congr 1
    exact Nat.mod_eq_of_lt h2
  have hf : (M.flip l (i % (8 * n))).getD (i % (8 * n) / 8) 0 = l.getD (i % (8 * n) / 8) 0 ^^^ UInt8.ofNat (2 ^ (i % (8 * n) % 8)) := by
    unfold M.flip
    rw [List.getD_eq_getElem?_getD, List.getElem?_set_self hq]
    rfl
  refine ⟨i % (8 * n), i % (8 * n) / 8, i % (8 * n) % 8, _, _, (l.getD (i % (8 * n) / 8) 0).toNat ^^^ 2 ^ (i % (8 * n) % 8), hp, hq, Nat.mod_lt _ (by omega), by simp, by simp, by simp, rfl, rfl, u8_xor_nat _ _ ho h2, ?_, ho, h2, ?_, ?_⟩
  · rw [hf, hx]
  · exact Nat.xor_lt_two_pow (n := 8) ho h2
  · unfold M.flip
    rw [← hx, UInt8.ofNat_toNat]

set_option maxRecDepth 100000 in
set_option maxHeartbeats 4000000 in
theorem walk (A : Option Addr) (l : List UInt8) (cap i j k : Nat) (w : World) (hl : l.length ≤ maxLen) (hi : i < 65536) (hj : j < 65536) (hk : k < 65536) (hr : BytesAt w A l) (ht : TabAt w) (hs : 0 < w.heap.size) :
    Calls Tryd.prog 5 #[.slice A l.length cap, .int .u16 (i : Int), .int .u16 (j : Int), .int .u16 (k : Int)] w fun e w' => e = .returned (.bool true) ∧ Below w.heap.size w w' := by
  have HR := Lib.hid hr
  have HT := Lib.hid ht
  have HL := Lib.hid hl
  clear hr ht hl
  by_cases h0 : l.length = 0
  · have hl0 : l = [] := List.eq_nil_of_length_eq_zero h0
    subst hl0
    clear h0
    go_enter Tryd.func5, Tryd.ntmps5
    go_wp2_with fail
    refine (known_any w HT.out hs).mono ?_
    rintro e w1 ⟨rfl, hb1⟩
    have HB1 := Lib.hid hb1
    clear hb1
    go_wp2_with fail
    go_ret
    exact ⟨rfl, HB1.out⟩
  · by_cases h500 : l.length ≤ 500
    · have h500' : (l.length : Int) ≤ 500 := by omega
      have hpos : 0 < (l.length : Int) := by omega
      have hne : ((l.length : Int) == 0) = false := by rw [beq_eq_false_iff_ne]; omega
      obtain ⟨b, off, rfl, hcell⟩ : ∃ b off, A = some ⟨b, off, none⟩ ∧ ∀ k (h : k < l.length), w.cell? ⟨b, off + k, none⟩ = some (.int .u8 ((l[k].toNat : Nat) : Int)) := by
        rcases HR.out with h | h
        · subst h; simp at h0
        · exact h
      have HC := Lib.hid hcell
      clear hcell
      obtain ⟨i5, hi5, hz5, hs5, hb5⟩ := info_parts bytes_info
      have HI : Hid (Tryd.prog.info? 5 = some i5 ∧ i5.zero = some (.int .u8 0) ∧ i5.size = 1 ∧ i5.bytes = 1) := Lib.hid ⟨hi5, hz5, hs5, hb5⟩
      clear hi5 hz5 hs5 hb5
      go_enter Tryd.func5, Tryd.ntmps5
      go_wp2_with fail
      refine (known_any w HT.out hs).mono ?_
      rintro e w1 ⟨rfl, hb1⟩
      have HB1 := Lib.hid hb1
      clear hb1
      go_wp2_with (at_builtin; refine wpList_append_own _ rfl (.const (.slice none 0 0)) (.tmp 21) 33 rfl w1.heap.size 5 i5 (.int .u8 0) 1 1 Tryd.underlying33 HI.out.1 HI.out.2.1 HI.out.2.2.1 HI.out.2.2.2 rfl (by decide) (.slice none 0 0) 0 [] rfl (World.ownsRow_nil _ _ _ _) ⟨b, off, none⟩ l.length cap (cellsOf l) rfl ?c0 ?c1 ?c2 ?c3 ?c4 ?c5 ?_)
      case c0 => simp [cellsOf]
      case c1 =>
        intro j u hj
        have hjl : j < l.length := by
          have := (List.getElem?_eq_some_iff.1 hj).1
          simpa [cellsOf] using this
        have h1 := HC.out j hjl
        have h2 := (HB1.out.cell (World.block_lt_of_cell? w _ h1)).trans h1
        rw [sumParts.add_plain, h2]
        simpa [cellsOf, hjl] using hj
      case c2 =>
        intro u hu
        obtain ⟨x, _, rfl⟩ := List.mem_map.1 hu
        rfl
      case c3 => unfold maxLen; omega
      case c4 => omega
      case c5 => exact Nat.le_refl _
      intro v' w2 hown hg _
      obtain ⟨g, c, rfl, hownd⟩ := Own.of_row (n := l.length) hown (by omega) rfl
      have hb2 : Below w1.heap.size w1 w2 := (Below.refl _ _).grown hg (Nat.le_refl _) (fun x hx => by simp [Value.ownBlock] at hx)
      have HO := Lib.hid hownd
      have HB2 := Lib.hid hb2
      clear hown hownd hg hb2
      have HRw : Hid (∀ w', Below w1.heap.size w1 w' → BytesAt w' (some ⟨b, off, none⟩) l) := Lib.hid fun w' hb => (HR.out.keep HB1.out).keep hb
      have HTw : Hid (∀ w', Below w1.heap.size w1 w' → TabAt w') := Lib.hid fun w' hb => (HT.out.below HB1.out hs).below hb (Nat.lt_of_lt_of_le hs HB1.out.size)
      obtain ⟨p1, q1, r1, old1, pw1, new1, hp1, hq1, hr1, ep1, eq1, er1, ho1, hpw1, ex1, hn1, lo1, lp1, ln1, hf1⟩ := flip_facts l i l.length rfl (by omega)
      have HW1 := Lib.hid (And.intro (wrap_facts hi (show 0 < l.length by omega) ep1 eq1 er1 hpw1 lp1) (And.intro eq1 (And.intro ex1 hr1)))
      have lq1 : (q1 : Int) < (l.length : Int) := by have h1 := hq1; have h2 : l.length = l.length := rfl; omega
      have HQ1 := Lib.hid hq1
      have HP1 := Lib.hid hp1
      have HF1 := Lib.hid hf1
      have HN1 : Hid ((UInt8.ofNat new1).toNat = new1) := Lib.hid (by rw [UInt8.toNat_ofNat']; exact Nat.mod_eq_of_lt ln1)
      have HG1 : Hid (w2.drew.cell? ⟨g, q1, none⟩ = some (.int .u8 (old1 : Int))) := Lib.hid (by
        have h := HO.out.get hq1
        rw [ho1, List.getD_eq_getElem?_getD, List.getElem?_eq_getElem hq1]
        exact h)
      have HZ1 : Hid (w2.drew.frozen? ⟨g, q1, none⟩ = false) := Lib.hid (HO.out.free q1)
      clear ho1 hpw1 hn1 hf1 ep1 eq1 er1 ex1 hp1 hq1 hr1 lo1 lp1 ln1
      go_wp2_with fail
      refine Reg.wp_region_inv (A := ?A1) (fr := fun _ => ?A1) (SInv (flipE (.slice (some ⟨g, 0, none⟩) l.length c) i (8 * (l.length : Int)) p1 q1 r1 old1 pw1 new1 (.pointer (some ⟨g, q1, none⟩))) 7 14 16 w2.drew (w2.drew.setCell ⟨g, q1, none⟩ (.int .u8 new1)))
          (by kernel_rfl) (by kernel_rfl) ?hA1 (Reg.frames_plain (by kernel_rfl) ?hA1) ?hI1 ?ho1 ?hend1
      case hA1 => intro vs; simp only [Reg.fill, if_true, Nat.zero_add, Nat.reduceAdd, Act.put, List.setIfInBounds_toArray, List.set_cons_succ, List.set_cons_zero]; exact rfl
      case hI1 => exact fun vs => SInv.start (by decide) (by decide) (by decide) (fun m hm => match m, hm with | m + 17, _ => rfl)
      case ho1 =>
        refine ⟨?_, ?_, ?_, ?_, ?_, ?_, ?_, ?_, ?_, ?_, ?_, ?_, ?_, ?_, ?_, ?_, ?_, trivial⟩
        · intro L vs w' hI hL hdep K hK
          clear hdep
          obtain ⟨⟨w1i, w1t, w1z, w1q, w1r, w1s⟩, w1e, w1x, w1m⟩ := HW1.out
          go_simp
          exact hK _ _ (hI.step rfl (by decide) (fun h => absurd h (by decide)) (by decide) hL)
        · intro L vs w' hI hL hdep K hK
          clear hdep
          obtain ⟨⟨w1i, w1t, w1z, w1q, w1r, w1s⟩, w1e, w1x, w1m⟩ := HW1.out
          go_simp
          exact hK _ _ (hI.step rfl (by decide) (fun h => absurd h (by decide)) (by decide) hL)
        · intro L vs w' hI hL hdep K hK
          have d1 : L 1 = true := hdep ⟨1, .data⟩ (by simp) rfl
          have P1 := hI.pure 1 _ rfl d1
          clear hdep
          obtain ⟨⟨w1i, w1t, w1z, w1q, w1r, w1s⟩, w1e, w1x, w1m⟩ := HW1.out
          go_simp
          exact hK _ _ (hI.step rfl (by decide) (fun h => absurd h (by decide)) (by decide) hL)
        · intro L vs w' hI hL hdep K hK
          clear hdep
          obtain ⟨⟨w1i, w1t, w1z, w1q, w1r, w1s⟩, w1e, w1x, w1m⟩ := HW1.out
          go_simp
          exact hK _ _ (hI.step rfl (by decide) (fun h => absurd h (by decide)) (by decide) hL)
        · intro L vs w' hI hL hdep K hK
          have d2 : L 2 = true := hdep ⟨2, .data⟩ (by simp) rfl
          have P2 := hI.pure 2 _ rfl d2
          have d3 : L 3 = true := hdep ⟨3, .data⟩ (by simp) rfl
          have P3 := hI.pure 3 _ rfl d3
          clear hdep
          obtain ⟨⟨w1i, w1t, w1z, w1q, w1r, w1s⟩, w1e, w1x, w1m⟩ := HW1.out
          go_simp
          exact hK _ _ (hI.step rfl (by decide) (fun h => absurd h (by decide)) (by decide) hL)
        · intro L vs w' hI hL hdep K hK
          have d4 : L 4 = true := hdep ⟨4, .data⟩ (by simp) rfl
          have P4 := hI.pure 4 _ rfl d4
          clear hdep
          obtain ⟨⟨w1i, w1t, w1z, w1q, w1r, w1s⟩, w1e, w1x, w1m⟩ := HW1.out
          go_simp
          exact hK _ _ (hI.step rfl (by decide) (fun h => absurd h (by decide)) (by decide) hL)
        · intro L vs w' hI hL hdep K hK
          have d0 : L 0 = true := hdep ⟨0, .data⟩ (by simp) rfl
          have P0 := hI.pure 0 _ rfl d0
          have d5 : L 5 = true := hdep ⟨5, .data⟩ (by simp) rfl
          have P5 := hI.pure 5 _ rfl d5
          clear hdep
          obtain ⟨⟨w1i, w1t, w1z, w1q, w1r, w1s⟩, w1e, w1x, w1m⟩ := HW1.out
          go_simp
          exact hK _ _ (hI.step rfl (by decide) (fun h => absurd h (by decide)) (by decide) hL)
        · intro L vs w' hI hL hdep K hK
          have d6 : L 6 = true := hdep ⟨6, .data⟩ (by simp) rfl
          have P6 := hI.pure 6 _ rfl d6
          clear hdep
          obtain ⟨⟨w1i, w1t, w1z, w1q, w1r, w1s⟩, w1e, w1x, w1m⟩ := HW1.out
          have hw := hI.before hL
          subst hw
          have hc := HG1.out
          go_simp
          exact hK _ _ (hI.step rfl (by decide) (fun h => absurd h (by decide)) (by decide) hL)
        · intro L vs w' hI hL hdep K hK
          clear hdep
          obtain ⟨⟨w1i, w1t, w1z, w1q, w1r, w1s⟩, w1e, w1x, w1m⟩ := HW1.out
          go_simp
          exact hK _ _ (hI.step rfl (by decide) (fun h => absurd h (by decide)) (by decide) hL)
        · intro L vs w' hI hL hdep K hK
          have d8 : L 8 = true := hdep ⟨8, .data⟩ (by simp) rfl
          have P8 := hI.pure 8 _ rfl d8
          clear hdep
          obtain ⟨⟨w1i, w1t, w1z, w1q, w1r, w1s⟩, w1e, w1x, w1m⟩ := HW1.out
          go_simp
          exact hK _ _ (hI.step rfl (by decide) (fun h => absurd h (by decide)) (by decide) hL)
        · intro L vs w' hI hL hdep K hK
          clear hdep
          obtain ⟨⟨w1i, w1t, w1z, w1q, w1r, w1s⟩, w1e, w1x, w1m⟩ := HW1.out
          go_simp
          exact hK _ _ (hI.step rfl (by decide) (fun h => absurd h (by decide)) (by decide) hL)
        · intro L vs w' hI hL hdep K hK
          have d9 : L 9 = true := hdep ⟨9, .data⟩ (by simp) rfl
          have P9 := hI.pure 9 _ rfl d9
          have d10 : L 10 = true := hdep ⟨10, .data⟩ (by simp) rfl
          have P10 := hI.pure 10 _ rfl d10
          clear hdep
          obtain ⟨⟨w1i, w1t, w1z, w1q, w1r, w1s⟩, w1e, w1x, w1m⟩ := HW1.out
          go_simp
          exact hK _ _ (hI.step rfl (by decide) (fun h => absurd h (by decide)) (by decide) hL)
        · intro L vs w' hI hL hdep K hK
          have d11 : L 11 = true := hdep ⟨11, .data⟩ (by simp) rfl
          have P11 := hI.pure 11 _ rfl d11
          clear hdep
          obtain ⟨⟨w1i, w1t, w1z, w1q, w1r, w1s⟩, w1e, w1x, w1m⟩ := HW1.out
          go_simp
          exact hK _ _ (hI.step rfl (by decide) (fun h => absurd h (by decide)) (by decide) hL)
        · intro L vs w' hI hL hdep K hK
          have d12 : L 12 = true := hdep ⟨12, .data⟩ (by simp) rfl
          have P12 := hI.pure 12 _ rfl d12
          clear hdep
          obtain ⟨⟨w1i, w1t, w1z, w1q, w1r, w1s⟩, w1e, w1x, w1m⟩ := HW1.out
          go_simp
          exact hK _ _ (hI.step rfl (by decide) (fun h => absurd h (by decide)) (by decide) hL)
        · intro L vs w' hI hL hdep K hK
          have d7 : L 7 = true := hdep ⟨7, .data⟩ (by simp) rfl
          have P7 := hI.pure 7 _ rfl d7
          have d13 : L 13 = true := hdep ⟨13, .data⟩ (by simp) rfl
          have P13 := hI.pure 13 _ rfl d13
          clear hdep
          obtain ⟨⟨w1i, w1t, w1z, w1q, w1r, w1s⟩, w1e, w1x, w1m⟩ := HW1.out
          go_simp
          exact hK _ _ (hI.step rfl (by decide) (fun _ => ⟨by decide, d7⟩) (by decide) hL)
        · intro L vs w' hI hL hdep K hK
          have d0 : L 0 = true := hdep ⟨0, .data⟩ (by simp) rfl
          have P0 := hI.pure 0 _ rfl d0
          have d5 : L 5 = true := hdep ⟨5, .data⟩ (by simp) rfl
          have P5 := hI.pure 5 _ rfl d5
          clear hdep
          obtain ⟨⟨w1i, w1t, w1z, w1q, w1r, w1s⟩, w1e, w1x, w1m⟩ := HW1.out
          go_simp
          exact hK _ _ (hI.step rfl (by decide) (fun h => absurd h (by decide)) (by decide) hL)
        · intro L vs w' hI hL hdep K hK
          have d15 : L 15 = true := hdep ⟨15, .data⟩ (by simp) rfl
          have P15 := hI.pure 15 _ rfl d15
          have d14 : L 14 = true := hdep ⟨14, .data⟩ (by simp) rfl
          have P14 := hI.pure 14 _ rfl d14
          clear hdep
          obtain ⟨⟨w1i, w1t, w1z, w1q, w1r, w1s⟩, w1e, w1x, w1m⟩ := HW1.out
          have hw := hI.bef hL
          subst hw
          have hc := HG1.out
          have hfz := HZ1.out
          go_simp
          exact hK _ _ (hI.store rfl hL d14 (by decide) (by decide) _)
      case hend1 =>
        intro vs1 w3 hI
        have hw := hI.aft rfl
        obtain ⟨l1, hcl1⟩ : ∃ x, x = M.flip l p1 := ⟨_, rfl⟩
        have HO3 : Hid (Own w3 w1.heap.size g l.length c l1) := Lib.hid (by
          have h := Own.set (w := w2.drew) HO.out HQ1.out (UInt8.ofNat new1)
          rw [HN1.out, ← HF1.out, ← hcl1, ← hw] at h
          exact h)
        have HB3 : Hid (Below w1.heap.size w1 w3) := Lib.hid (by rw [hw]; exact Below.setCell HB2.out.drew (p := ⟨g, q1, none⟩) HO.out.1 _)
        have HCL1 := Lib.hid hcl1
        have HL1 : Hid (l.length = l1.length) := Lib.hid HO3.out.2.1.symm
        clear hI hw hcl1 lq1
        go_wp2_with fail
        obtain ⟨cA, hcA⟩ : ∃ x, x = M.crc [l1] := ⟨_, rfl⟩
        obtain ⟨cB, hcB⟩ : ∃ x, x = M.crc [l] := ⟨_, rfl⟩
        have hAB : ((cA : Int) == (cB : Int)) = false := by
          have h := M.crc_flip HP1.out
          rw [← HCL1.out, ← hcA, ← hcB] at h
          rw [beq_eq_false_iff_ne]
          omega
        have HCA := Lib.hid hcA
        have HCB := Lib.hid hcB
        clear hcA hcB
        refine (crc_one (l1 := l1) ((HTw.out w3 HB3.out).alloc (Nat.lt_of_lt_of_le hs (Nat.le_trans HB1.out.size HB3.out.size)) _) (fun j => cell_new rfl j) HL1.out (HO3.out.bytes.keep ((Below.refl _ _).alloc (Nat.le_refl _) _)) (by rw [← HL1.out]; exact HL.out)).mono ?_
        rintro e w' ⟨rfl, rfl⟩
        rw [← HCA.out]
        go_wp2_with fail
        refine (crc_one (l1 := l) (((HTw.out w3 HB3.out).alloc (Nat.lt_of_lt_of_le hs (Nat.le_trans HB1.out.size HB3.out.size)) _).alloc (by simp) _) (fun j => cell_new (by simp) j) rfl (((HRw.out w3 HB3.out).keep ((Below.refl _ _).alloc (Nat.le_refl _) _)).keep ((Below.refl _ _).alloc (Nat.le_refl _) _)) HL.out).mono ?_
        rintro e w' ⟨rfl, rfl⟩
        rw [← HCB.out]
        go_wp2_with fail
        obtain ⟨w4, hw4⟩ : ∃ x, x = ((w3.alloc (.cells #[.slice (some ⟨g, 0, none⟩) l.length c] 33)).alloc (.cells #[.slice (some ⟨b, off, none⟩) l.length cap] 33)) := ⟨_, rfl⟩
        rw [← hw4]
        have HB34 : Hid (Below w3.heap.size w3 w4) := Lib.hid (by rw [hw4]; exact ((Below.refl _ _).alloc (Nat.le_refl _) _).alloc (by simp) _)
        have HO4 : Hid (Own w4 w1.heap.size g l.length c l1) := Lib.hid (HO3.out.keep HB34.out)
        have HB4 : Hid (Below w1.heap.size w1 w4) := Lib.hid (HB3.out.trans (HB34.out.mono HB3.out.size))
        clear hw4 hAB
        obtain ⟨p2, q2, r2, old2, pw2, new2, hp2, hq2, hr2, ep2, eq2, er2, ho2, hpw2, ex2, hn2, lo2, lp2, ln2, hf2⟩ := flip_facts l1 j l.length HL1.out (by omega)
        have HW2 := Lib.hid (And.intro (wrap_facts hj (show 0 < l.length by omega) ep2 eq2 er2 hpw2 lp2) (And.intro eq2 (And.intro ex2 hr2)))
        have lq2 : (q2 : Int) < (l.length : Int) := by have h1 := hq2; have h2 : l.length = l1.length := HL1.out; omega
        have HQ2 := Lib.hid hq2
        have HP2 := Lib.hid hp2
        have HF2 := Lib.hid hf2
        have HN2 : Hid ((UInt8.ofNat new2).toNat = new2) := Lib.hid (by rw [UInt8.toNat_ofNat']; exact Nat.mod_eq_of_lt ln2)
        have HG2 : Hid (w4.drew.cell? ⟨g, q2, none⟩ = some (.int .u8 (old2 : Int))) := Lib.hid (by
          have h := HO4.out.get hq2
          rw [ho2, List.getD_eq_getElem?_getD, List.getElem?_eq_getElem hq2]
          exact h)
        have HZ2 : Hid (w4.drew.frozen? ⟨g, q2, none⟩ = false) := Lib.hid (HO4.out.free q2)
        clear ho2 hpw2 hn2 hf2 ep2 eq2 er2 ex2 hp2 hq2 hr2 lo2 lp2 ln2
        go_wp2_with fail
        refine Reg.wp_region_inv (A := ?A2) (fr := fun _ => ?A2) (SInv (flipE (.slice (some ⟨g, 0, none⟩) l.length c) j (8 * (l.length : Int)) p2 q2 r2 old2 pw2 new2 (.pointer (some ⟨g, q2, none⟩))) 7 14 16 w4.drew (w4.drew.setCell ⟨g, q2, none⟩ (.int .u8 new2)))
            (by kernel_rfl) (by kernel_rfl) ?hA2 (Reg.frames_plain (by kernel_rfl) ?hA2) ?hI2 ?ho2 ?hend2
        case hA2 => intro vs; simp only [Reg.fill, if_true, Nat.zero_add, Nat.reduceAdd, Act.put, List.setIfInBounds_toArray, List.set_cons_succ, List.set_cons_zero]; exact rfl
        case hI2 => exact fun vs => SInv.start (by decide) (by decide) (by decide) (fun m hm => match m, hm with | m + 17, _ => rfl)
        case ho2 =>
          refine ⟨?_, ?_, ?_, ?_, ?_, ?_, ?_, ?_, ?_, ?_, ?_, ?_, ?_, ?_, ?_, ?_, ?_, trivial⟩
          · intro L vs w' hI hL hdep K hK
            clear hdep
            obtain ⟨⟨w1i, w1t, w1z, w1q, w1r, w1s⟩, w1e, w1x, w1m⟩ := HW2.out
            go_simp
            exact hK _ _ (hI.step rfl (by decide) (fun h => absurd h (by decide)) (by decide) hL)
          · intro L vs w' hI hL hdep K hK
            clear hdep
            obtain ⟨⟨w1i, w1t, w1z, w1q, w1r, w1s⟩, w1e, w1x, w1m⟩ := HW2.out
            go_simp
            exact hK _ _ (hI.step rfl (by decide) (fun h => absurd h (by decide)) (by decide) hL)
          · intro L vs w' hI hL hdep K hK
            have d1 : L 1 = true := hdep ⟨1, .data⟩ (by simp) rfl
            have P1 := hI.pure 1 _ rfl d1
            clear hdep
            obtain ⟨⟨w1i, w1t, w1z, w1q, w1r, w1s⟩, w1e, w1x, w1m⟩ := HW2.out
            go_simp
            exact hK _ _ (hI.step rfl (by decide) (fun h => absurd h (by decide)) (by decide) hL)
          · intro L vs w' hI hL hdep K hK
            clear hdep
            obtain ⟨⟨w1i, w1t, w1z, w1q, w1r, w1s⟩, w1e, w1x, w1m⟩ := HW2.out
            go_simp
            exact hK _ _ (hI.step rfl (by decide) (fun h => absurd h (by decide)) (by decide) hL)
          · intro L vs w' hI hL hdep K hK
            have d2 : L 2 = true := hdep ⟨2, .data⟩ (by simp) rfl
            have P2 := hI.pure 2 _ rfl d2
            have d3 : L 3 = true := hdep ⟨3, .data⟩ (by simp) rfl
            have P3 := hI.pure 3 _ rfl d3
            clear hdep
            obtain ⟨⟨w1i, w1t, w1z, w1q, w1r, w1s⟩, w1e, w1x, w1m⟩ := HW2.out
            go_simp
            exact hK _ _ (hI.step rfl (by decide) (fun h => absurd h (by decide)) (by decide) hL)
          · intro L vs w' hI hL hdep K hK
            have d4 : L 4 = true := hdep ⟨4, .data⟩ (by simp) rfl
            have P4 := hI.pure 4 _ rfl d4
            clear hdep
            obtain ⟨⟨w1i, w1t, w1z, w1q, w1r, w1s⟩, w1e, w1x, w1m⟩ := HW2.out
            go_simp
            exact hK _ _ (hI.step rfl (by decide) (fun h => absurd h (by decide)) (by decide) hL)
          · intro L vs w' hI hL hdep K hK
            have d0 : L 0 = true := hdep ⟨0, .data⟩ (by simp) rfl
            have P0 := hI.pure 0 _ rfl d0
            have d5 : L 5 = true := hdep ⟨5, .data⟩ (by simp) rfl
            have P5 := hI.pure 5 _ rfl d5
            clear hdep
            obtain ⟨⟨w1i, w1t, w1z, w1q, w1r, w1s⟩, w1e, w1x, w1m⟩ := HW2.out
            go_simp
            exact hK _ _ (hI.step rfl (by decide) (fun h => absurd h (by decide)) (by decide) hL)
          · intro L vs w' hI hL hdep K hK
            have d6 : L 6 = true := hdep ⟨6, .data⟩ (by simp) rfl
            have P6 := hI.pure 6 _ rfl d6
            clear hdep
            obtain ⟨⟨w1i, w1t, w1z, w1q, w1r, w1s⟩, w1e, w1x, w1m⟩ := HW2.out
            have hw := hI.before hL
            subst hw
            have hc := HG2.out
            go_simp
            exact hK _ _ (hI.step rfl (by decide) (fun h => absurd h (by decide)) (by decide) hL)
          · intro L vs w' hI hL hdep K hK
            clear hdep
            obtain ⟨⟨w1i, w1t, w1z, w1q, w1r, w1s⟩, w1e, w1x, w1m⟩ := HW2.out
            go_simp
            exact hK _ _ (hI.step rfl (by decide) (fun h => absurd h (by decide)) (by decide) hL)
          · intro L vs w' hI hL hdep K hK
            have d8 : L 8 = true := hdep ⟨8, .data⟩ (by simp) rfl
            have P8 := hI.pure 8 _ rfl d8
            clear hdep
            obtain ⟨⟨w1i, w1t, w1z, w1q, w1r, w1s⟩, w1e, w1x, w1m⟩ := HW2.out
            go_simp
            exact hK _ _ (hI.step rfl (by decide) (fun h => absurd h (by decide)) (by decide) hL)
          · intro L vs w' hI hL hdep K hK
            clear hdep
            obtain ⟨⟨w1i, w1t, w1z, w1q, w1r, w1s⟩, w1e, w1x, w1m⟩ := HW2.out
            go_simp
            exact hK _ _ (hI.step rfl (by decide) (fun h => absurd h (by decide)) (by decide) hL)
          · intro L vs w' hI hL hdep K hK
            have d9 : L 9 = true := hdep ⟨9, .data⟩ (by simp) rfl
            have P9 := hI.pure 9 _ rfl d9
            have d10 : L 10 = true := hdep ⟨10, .data⟩ (by simp) rfl
            have P10 := hI.pure 10 _ rfl d10
            clear hdep
            obtain ⟨⟨w1i, w1t, w1z, w1q, w1r, w1s⟩, w1e, w1x, w1m⟩ := HW2.out
            go_simp
            exact hK _ _ (hI.step rfl (by decide) (fun h => absurd h (by decide)) (by decide) hL)
          · intro L vs w' hI hL hdep K hK
            have d11 : L 11 = true := hdep ⟨11, .data⟩ (by simp) rfl
            have P11 := hI.pure 11 _ rfl d11
            clear hdep
            obtain ⟨⟨w1i, w1t, w1z, w1q, w1r, w1s⟩, w1e, w1x, w1m⟩ := HW2.out
            go_simp
            exact hK _ _ (hI.step rfl (by decide) (fun h => absurd h (by decide)) (by decide) hL)
          · intro L vs w' hI hL hdep K hK
            have d12 : L 12 = true := hdep ⟨12, .data⟩ (by simp) rfl
            have P12 := hI.pure 12 _ rfl d12
            clear hdep
            obtain ⟨⟨w1i, w1t, w1z, w1q, w1r, w1s⟩, w1e, w1x, w1m⟩ := HW2.out
            go_simp
            exact hK _ _ (hI.step rfl (by decide) (fun h => absurd h (by decide)) (by decide) hL)
          · intro L vs w' hI hL hdep K hK
            have d7 : L 7 = true := hdep ⟨7, .data⟩ (by simp) rfl
            have P7 := hI.pure 7 _ rfl d7
            have d13 : L 13 = true := hdep ⟨13, .data⟩ (by simp) rfl
            have P13 := hI.pure 13 _ rfl d13
            clear hdep
            obtain ⟨⟨w1i, w1t, w1z, w1q, w1r, w1s⟩, w1e, w1x, w1m⟩ := HW2.out
            go_simp
            exact hK _ _ (hI.step rfl (by decide) (fun _ => ⟨by decide, d7⟩) (by decide) hL)
          · intro L vs w' hI hL hdep K hK
            have d0 : L 0 = true := hdep ⟨0, .data⟩ (by simp) rfl
            have P0 := hI.pure 0 _ rfl d0
            have d5 : L 5 = true := hdep ⟨5, .data⟩ (by simp) rfl
            have P5 := hI.pure 5 _ rfl d5
            clear hdep
            obtain ⟨⟨w1i, w1t, w1z, w1q, w1r, w1s⟩, w1e, w1x, w1m⟩ := HW2.out
            go_simp
            exact hK _ _ (hI.step rfl (by decide) (fun h => absurd h (by decide)) (by decide) hL)
          · intro L vs w' hI hL hdep K hK
            have d15 : L 15 = true := hdep ⟨15, .data⟩ (by simp) rfl
            have P15 := hI.pure 15 _ rfl d15
            have d14 : L 14 = true := hdep ⟨14, .data⟩ (by simp) rfl
            have P14 := hI.pure 14 _ rfl d14
            clear hdep
            obtain ⟨⟨w1i, w1t, w1z, w1q, w1r, w1s⟩, w1e, w1x, w1m⟩ := HW2.out
            have hw := hI.bef hL
            subst hw
            have hc := HG2.out
            have hfz := HZ2.out
            go_simp
            exact hK _ _ (hI.store rfl hL d14 (by decide) (by decide) _)
        case hend2 =>
          intro vs2 w5 hI
          have hw := hI.aft rfl
          obtain ⟨l2, hcl2⟩ : ∃ x, x = M.flip l1 p2 := ⟨_, rfl⟩
          have HO5 : Hid (Own w5 w1.heap.size g l.length c l2) := Lib.hid (by
            have h := Own.set (w := w4.drew) HO4.out HQ2.out (UInt8.ofNat new2)
            rw [HN2.out, ← HF2.out, ← hcl2, ← hw] at h
            exact h)
          have HB5 : Hid (Below w1.heap.size w1 w5) := Lib.hid (by rw [hw]; exact Below.setCell HB4.out.drew (p := ⟨g, q2, none⟩) HO4.out.1 _)
          have HCL2 := Lib.hid hcl2
          have HL2 : Hid (l.length = l2.length) := Lib.hid HO5.out.2.1.symm
          clear hI hw hcl2 lq2
          obtain ⟨p3, q3, r3, old3, pw3, new3, hp3, hq3, hr3, ep3, eq3, er3, ho3, hpw3, ex3, hn3, lo3, lp3, ln3, hf3⟩ := flip_facts l2 k l.length HL2.out (by omega)
          have HW3 := Lib.hid (And.intro (wrap_facts hk (show 0 < l.length by omega) ep3 eq3 er3 hpw3 lp3) (And.intro eq3 (And.intro ex3 hr3)))
          have lq3 : (q3 : Int) < (l.length : Int) := by have h1 := hq3; have h2 : l.length = l2.length := HL2.out; omega
          have HQ3 := Lib.hid hq3
          have HP3 := Lib.hid hp3
          have HF3 := Lib.hid hf3
          have HN3 : Hid ((UInt8.ofNat new3).toNat = new3) := Lib.hid (by rw [UInt8.toNat_ofNat']; exact Nat.mod_eq_of_lt ln3)
          have HG3 : Hid (w5.drew.cell? ⟨g, q3, none⟩ = some (.int .u8 (old3 : Int))) := Lib.hid (by
            have h := HO5.out.get hq3
            rw [ho3, List.getD_eq_getElem?_getD, List.getElem?_eq_getElem hq3]
            exact h)
          have HZ3 : Hid (w5.drew.frozen? ⟨g, q3, none⟩ = false) := Lib.hid (HO5.out.free q3)
          clear ho3 hpw3 hn3 hf3 ep3 eq3 er3 ex3 hp3 hq3 hr3 lo3 lp3 ln3
          go_wp2_with fail
          refine Reg.wp_region_inv (A := ?A3) (fr := fun _ => ?A3) (SInv (flipE (.slice (some ⟨g, 0, none⟩) l.length c) k (8 * (l.length : Int)) p3 q3 r3 old3 pw3 new3 (.pointer (some ⟨g, q3, none⟩))) 7 14 16 w5.drew (w5.drew.setCell ⟨g, q3, none⟩ (.int .u8 new3)))
              (by kernel_rfl) (by kernel_rfl) ?hA3 (Reg.frames_plain (by kernel_rfl) ?hA3) ?hI3 ?ho3 ?hend3
          case hA3 => intro vs; simp only [Reg.fill, if_true, Nat.zero_add, Nat.reduceAdd, Act.put, List.setIfInBounds_toArray, List.set_cons_succ, List.set_cons_zero]; exact rfl
          case hI3 => exact fun vs => SInv.start (by decide) (by decide) (by decide) (fun m hm => match m, hm with | m + 17, _ => rfl)
          case ho3 =>
            refine ⟨?_, ?_, ?_, ?_, ?_, ?_, ?_, ?_, ?_, ?_, ?_, ?_, ?_, ?_, ?_, ?_, ?_, trivial⟩
            · intro L vs w' hI hL hdep K hK
              clear hdep
              obtain ⟨⟨w1i, w1t, w1z, w1q, w1r, w1s⟩, w1e, w1x, w1m⟩ := HW3.out
              go_simp
              exact hK _ _ (hI.step rfl (by decide) (fun h => absurd h (by decide)) (by decide) hL)
            · intro L vs w' hI hL hdep K hK
              clear hdep
              obtain ⟨⟨w1i, w1t, w1z, w1q, w1r, w1s⟩, w1e, w1x, w1m⟩ := HW3.out
              go_simp
              exact hK _ _ (hI.step rfl (by decide) (fun h => absurd h (by decide)) (by decide) hL)
            · intro L vs w' hI hL hdep K hK
              have d1 : L 1 = true := hdep ⟨1, .data⟩ (by simp) rfl
              have P1 := hI.pure 1 _ rfl d1
              clear hdep
              obtain ⟨⟨w1i, w1t, w1z, w1q, w1r, w1s⟩, w1e, w1x, w1m⟩ := HW3.out
              go_simp
              exact hK _ _ (hI.step rfl (by decide) (fun h => absurd h (by decide)) (by decide) hL)
            · intro L vs w' hI hL hdep K hK
              clear hdep
              obtain ⟨⟨w1i, w1t, w1z, w1q, w1r, w1s⟩, w1e, w1x, w1m⟩ := HW3.out
              go_simp
              exact hK _ _ (hI.step rfl (by decide) (fun h => absurd h (by decide)) (by decide) hL)
            · intro L vs w' hI hL hdep K hK
              have d2 : L 2 = true := hdep ⟨2, .data⟩ (by simp) rfl
              have P2 := hI.pure 2 _ rfl d2
              have d3 : L 3 = true := hdep ⟨3, .data⟩ (by simp) rfl
              have P3 := hI.pure 3 _ rfl d3
              clear hdep
              obtain ⟨⟨w1i, w1t, w1z, w1q, w1r, w1s⟩, w1e, w1x, w1m⟩ := HW3.out
              go_simp
              exact hK _ _ (hI.step rfl (by decide) (fun h => absurd h (by decide)) (by decide) hL)
            · intro L vs w' hI hL hdep K hK
              have d4 : L 4 = true := hdep ⟨4, .data⟩ (by simp) rfl
              have P4 := hI.pure 4 _ rfl d4
              clear hdep
              obtain ⟨⟨w1i, w1t, w1z, w1q, w1r, w1s⟩, w1e, w1x, w1m⟩ := HW3.out
              go_simp
              exact hK _ _ (hI.step rfl (by decide) (fun h => absurd h (by decide)) (by decide) hL)
            · intro L vs w' hI hL hdep K hK
              have d0 : L 0 = true := hdep ⟨0, .data⟩ (by simp) rfl
              have P0 := hI.pure 0 _ rfl d0
              have d5 : L 5 = true := hdep ⟨5, .data⟩ (by simp) rfl
              have P5 := hI.pure 5 _ rfl d5
              clear hdep
              obtain ⟨⟨w1i, w1t, w1z, w1q, w1r, w1s⟩, w1e, w1x, w1m⟩ := HW3.out
              go_simp
              exact hK _ _ (hI.step rfl (by decide) (fun h => absurd h (by decide)) (by decide) hL)
            · intro L vs w' hI hL hdep K hK
              have d6 : L 6 = true := hdep ⟨6, .data⟩ (by simp) rfl
              have P6 := hI.pure 6 _ rfl d6
              clear hdep
              obtain ⟨⟨w1i, w1t, w1z, w1q, w1r, w1s⟩, w1e, w1x, w1m⟩ := HW3.out
              have hw := hI.before hL
              subst hw
              have hc := HG3.out
              go_simp
              exact hK _ _ (hI.step rfl (by decide) (fun h => absurd h (by decide)) (by decide) hL)
            · intro L vs w' hI hL hdep K hK
              clear hdep
              obtain ⟨⟨w1i, w1t, w1z, w1q, w1r, w1s⟩, w1e, w1x, w1m⟩ := HW3.out
              go_simp
              exact hK _ _ (hI.step rfl (by decide) (fun h => absurd h (by decide)) (by decide) hL)
            · intro L vs w' hI hL hdep K hK
              have d8 : L 8 = true := hdep ⟨8, .data⟩ (by simp) rfl
              have P8 := hI.pure 8 _ rfl d8
              clear hdep
              obtain ⟨⟨w1i, w1t, w1z, w1q, w1r, w1s⟩, w1e, w1x, w1m⟩ := HW3.out
              go_simp
              exact hK _ _ (hI.step rfl (by decide) (fun h => absurd h (by decide)) (by decide) hL)
            · intro L vs w' hI hL hdep K hK
              clear hdep
              obtain ⟨⟨w1i, w1t, w1z, w1q, w1r, w1s⟩, w1e, w1x, w1m⟩ := HW3.out
              go_simp
              exact hK _ _ (hI.step rfl (by decide) (fun h => absurd h (by decide)) (by decide) hL)
            · intro L vs w' hI hL hdep K hK
              have d9 : L 9 = true := hdep ⟨9, .data⟩ (by simp) rfl
              have P9 := hI.pure 9 _ rfl d9
              have d10 : L 10 = true := hdep ⟨10, .data⟩ (by simp) rfl
              have P10 := hI.pure 10 _ rfl d10
              clear hdep
              obtain ⟨⟨w1i, w1t, w1z, w1q, w1r, w1s⟩, w1e, w1x, w1m⟩ := HW3.out
              go_simp
              exact hK _ _ (hI.step rfl (by decide) (fun h => absurd h (by decide)) (by decide) hL)
            · intro L vs w' hI hL hdep K hK
              have d11 : L 11 = true := hdep ⟨11, .data⟩ (by simp) rfl
              have P11 := hI.pure 11 _ rfl d11
              clear hdep
              obtain ⟨⟨w1i, w1t, w1z, w1q, w1r, w1s⟩, w1e, w1x, w1m⟩ := HW3.out
              go_simp
              exact hK _ _ (hI.step rfl (by decide) (fun h => absurd h (by decide)) (by decide) hL)
            · intro L vs w' hI hL hdep K hK
              have d12 : L 12 = true := hdep ⟨12, .data⟩ (by simp) rfl
              have P12 := hI.pure 12 _ rfl d12
              clear hdep
              obtain ⟨⟨w1i, w1t, w1z, w1q, w1r, w1s⟩, w1e, w1x, w1m⟩ := HW3.out
              go_simp
              exact hK _ _ (hI.step rfl (by decide) (fun h => absurd h (by decide)) (by decide) hL)
            · intro L vs w' hI hL hdep K hK
              have d7 : L 7 = true := hdep ⟨7, .data⟩ (by simp) rfl
              have P7 := hI.pure 7 _ rfl d7
              have d13 : L 13 = true := hdep ⟨13, .data⟩ (by simp) rfl
              have P13 := hI.pure 13 _ rfl d13
              clear hdep
              obtain ⟨⟨w1i, w1t, w1z, w1q, w1r, w1s⟩, w1e, w1x, w1m⟩ := HW3.out
              go_simp
              exact hK _ _ (hI.step rfl (by decide) (fun _ => ⟨by decide, d7⟩) (by decide) hL)
            · intro L vs w' hI hL hdep K hK
              have d0 : L 0 = true := hdep ⟨0, .data⟩ (by simp) rfl
              have P0 := hI.pure 0 _ rfl d0
              have d5 : L 5 = true := hdep ⟨5, .data⟩ (by simp) rfl
              have P5 := hI.pure 5 _ rfl d5
              clear hdep
              obtain ⟨⟨w1i, w1t, w1z, w1q, w1r, w1s⟩, w1e, w1x, w1m⟩ := HW3.out
              go_simp
              exact hK _ _ (hI.step rfl (by decide) (fun h => absurd h (by decide)) (by decide) hL)
            · intro L vs w' hI hL hdep K hK
              have d15 : L 15 = true := hdep ⟨15, .data⟩ (by simp) rfl
              have P15 := hI.pure 15 _ rfl d15
              have d14 : L 14 = true := hdep ⟨14, .data⟩ (by simp) rfl
              have P14 := hI.pure 14 _ rfl d14
              clear hdep
              obtain ⟨⟨w1i, w1t, w1z, w1q, w1r, w1s⟩, w1e, w1x, w1m⟩ := HW3.out
              have hw := hI.bef hL
              subst hw
              have hc := HG3.out
              have hfz := HZ3.out
              go_simp
              exact hK _ _ (hI.store rfl hL d14 (by decide) (by decide) _)
          case hend3 =>
            intro vs3 w6 hI
            have hw := hI.aft rfl
            obtain ⟨l3, hcl3⟩ : ∃ x, x = M.flip l2 p3 := ⟨_, rfl⟩
            have HO6 : Hid (Own w6 w1.heap.size g l.length c l3) := Lib.hid (by
              have h := Own.set (w := w5.drew) HO5.out HQ3.out (UInt8.ofNat new3)
              rw [HN3.out, ← HF3.out, ← hcl3, ← hw] at h
              exact h)
            have HB6 : Hid (Below w1.heap.size w1 w6) := Lib.hid (by rw [hw]; exact Below.setCell HB5.out.drew (p := ⟨g, q3, none⟩) HO5.out.1 _)
            have HCL3 := Lib.hid hcl3
            have HL3 : Hid (l.length = l3.length) := Lib.hid HO6.out.2.1.symm
            clear hI hw hcl3 lq3
            have HO6B : Hid (∀ w', Below w6.heap.size w6 w' → BytesAt w' (some ⟨g, 0, none⟩) l3) := Lib.hid fun w' hb => HO6.out.bytes.keep hb
            have HR6 : Hid (∀ w', Below w6.heap.size w6 w' → BytesAt w' (some ⟨b, off, none⟩) l) := Lib.hid fun w' hb => HRw.out w' (HB6.out.trans (hb.mono HB6.out.size))
            have HT6 : Hid (∀ w', Below w6.heap.size w6 w' → TabAt w') := Lib.hid fun w' hb => HTw.out w' (HB6.out.trans (hb.mono HB6.out.size))
            have HF6 : Hid (Below w.heap.size w w6) := Lib.hid (HB1.out.trans (HB6.out.mono HB1.out.size))
            have HM3 : Hid (l3.length ≤ maxLen) := Lib.hid (by rw [← HL3.out]; exact HL.out)
            have hne3 : M.crc [l3] ≠ M.crc [l] := by
              have h2 : p2 < 8 * l.length := HP2.out
              have h3 : p3 < 8 * l.length := HP3.out
              rw [HCL3.out, HCL2.out, HCL1.out]
              exact M.crc_flips h500 HP1.out h2 h3
            obtain ⟨cC, hcC⟩ : ∃ x, x = M.crc [l3] := ⟨_, rfl⟩
            have hCB : ((cC : Int) == (cB : Int)) = false := by
              rw [← hcC, ← HCB.out] at hne3
              rw [beq_eq_false_iff_ne]
              omega
            have hll : l3 ≠ l := fun e => hne3 (by rw [e])
            obtain ⟨pC, hpC⟩ : ∃ x, x = M.fnv [l3] := ⟨_, rfl⟩
            have HCC := Lib.hid hcC
            have HPC := Lib.hid hpC
            have HLL := Lib.hid hll
            clear hcC hpC hll hne3
            have HV3 : Hid (∀ w', Below w6.heap.size w6 w' → (convert 33 9 (.slice (some ⟨g, 0, none⟩) l.length c)).run Tryd.prog w' = .ok (.string (strOf l3)) w') := Lib.hid (fun w' hb => by
              have h := conv_text w' (some ⟨g, 0, none⟩) l3 c (HO6B.out w' hb)
              rwa [← HL3.out] at h)
            have HVB : Hid (∀ w', Below w6.heap.size w6 w' → (convert 33 9 (.slice (some ⟨b, off, none⟩) l.length cap)).run Tryd.prog w' = .ok (.string (strOf l)) w') := Lib.hid (fun w' hb => conv_text w' (some ⟨b, off, none⟩) l cap (HR6.out w' hb))
            go_wp2_with fail
            refine Reg.wp_region_facts (A := ?AF) (fun w' => Below w6.heap.size w6 w') w6.heap.size
              [Is (.slice (some ⟨g, 0, none⟩) l.length c), Row 33 1 #[.slice (some ⟨g, 0, none⟩) l.length c], Is (.int .u32 cC), Is (.slice (some ⟨b, off, none⟩) l.length cap), Row 33 1 #[.slice (some ⟨b, off, none⟩) l.length cap], Is (.int .u32 cB), Is (.bool false), Is (.slice (some ⟨g, 0, none⟩) l.length c), Is (.string (strOf l3)), Is (.slice (some ⟨b, off, none⟩) l.length cap), Is (.string (strOf l)), Is (.bool false), Is (.bool true), Is (.bool true),
               Is (.slice (some ⟨g, 0, none⟩) l.length c), Is (.string (strOf l3)), Row 9 1 #[.string (strOf l3)], Is (.int .u64 pC), Is (.slice (some ⟨g, 0, none⟩) l.length c), Is (.string (strOf l3)), Row 9 1 #[.string (strOf l3)], Is (.int .u64 pC), Is (.bool true), Is (.bool true), Is (.bool true)]
              (by kernel_rfl) (by kernel_rfl) rfl ?hAF ?hCF ?hBF ?hoF ?hlastF ?hendF
            case hAF => intro vs; simp only [Reg.fill, if_true, Nat.zero_add, Nat.reduceAdd, Act.put, List.setIfInBounds_toArray, List.set_cons_succ, List.set_cons_zero]; exact rfl
            case hCF => exact (Below.refl _ _).drew
            case hBF => exact fun w' hb => hb.size
            case hlastF => repeat (first | exact trivial | refine ⟨sumParts.Is.last, ?_⟩ | refine ⟨Row.last, ?_⟩)
            case hoF =>
              repeat' apply And.intro
              all_goals
                first
                  | exact trivial
                  | (intro vs w' hC hd K hK
                     try simp only [Reg.Deps, Reg.at_, List.getD_cons_zero, List.getD_cons_succ, Region.binds, true_implies, Is, and_true] at hd
                     first
                       | (obtain ⟨hd1, hd2, hd⟩ := hd)
                       | (obtain ⟨hd1, hd⟩ := hd)
                       | skip
                     go_simp
                     first
                       | exact hK _ _ hC (Below.refl _ _) rfl
                       | exact hK _ _ (hC.alloc hC.size _) ((Below.refl _ _).alloc (Nat.le_refl _) _) Row.new
                       | skip)
              · refine (crc_one (HT6.out w' hC) hd.2 HL3.out (HO6B.out w' hC) HM3.out).mono ?_
                rintro e w'' ⟨rfl, rfl⟩
                exact ⟨_, rfl, hK _ _ hC (Below.refl _ _) (by rw [← HCC.out]; rfl)⟩
              · obtain ⟨g', hg', -, hcell⟩ := hd1
                rw [hg']
                refine (crc_one (HT6.out w' hC) hcell rfl (HR6.out w' hC) HL.out).mono ?_
                rintro e w'' ⟨rfl, rfl⟩
                exact ⟨_, rfl, hK _ _ hC (Below.refl _ _) (by rw [← HCB.out]; rfl)⟩
              · rw [HV3.out w' hC]
                exact hK _ _ hC (Below.refl _ _) rfl
              · rw [HVB.out w' hC]
                exact hK _ _ hC (Below.refl _ _) rfl
              · rw [str_ne HLL.out]
                exact hK _ _ hC (Below.refl _ _) rfl
              · rw [HV3.out w' hC]
                exact hK _ _ hC (Below.refl _ _) rfl
              · obtain ⟨g', hg', -, hcell⟩ := hd1
                rw [hg']
                refine (print_one hcell HM3.out).mono ?_
                rintro e w'' ⟨rfl, rfl⟩
                exact ⟨_, rfl, hK _ _ hC (Below.refl _ _) (by rw [← HPC.out]; rfl)⟩
              · rw [HV3.out w' hC]
                exact hK _ _ hC (Below.refl _ _) rfl
              · obtain ⟨g', hg', -, hcell⟩ := hd1
                rw [hg']
                refine (refPrint_one hcell HM3.out).mono ?_
                rintro e w'' ⟨rfl, rfl⟩
                exact ⟨_, rfl, hK _ _ hC (Below.refl _ _) (by rw [← HPC.out]; rfl)⟩
            case hendF =>
              intro vs w' hC hall
              simp only [Reg.All, Is, and_true, Nat.zero_add, Nat.reduceAdd] at hall
              have h24 : vs 24 = Value.bool true := by simp only [hall]
              have HBZ : Hid (Below w.heap.size w w') := Lib.hid (HF6.out.trans (hC.mono HF6.out.size))
              clear hall hC
              go_wp2
              go_ret
              exact ⟨by simp [h24], HBZ.out⟩
    · have h500' : 500 < (l.length : Int) := by omega
      have hne : ((l.length : Int) == 0) = false := by rw [beq_eq_false_iff_ne]; omega
      go_enter Tryd.func5, Tryd.ntmps5
      go_wp2_with fail
      refine (known_any w HT.out hs).mono ?_
      rintro e w1 ⟨rfl, hb1⟩
      have HB1 := Lib.hid hb1
      clear hb1
      go_wp2_with fail
      go_ret
      exact ⟨rfl, HB1.out⟩

/-- The walk, over the numbers as they come in. -/
theorem walkInts (A : Option Addr) (l : List UInt8) (cap : Nat) (i j k : Int) (w : World) (hl : l.length ≤ maxLen) (_hc : l.length ≤ cap) (_hm : cap ≤ maxLen) (hr : BytesAt w A l)
    (wi : (Lit.int .u16 i).wf = true) (wj : (Lit.int .u16 j).wf = true) (wk : (Lit.int .u16 k).wf = true) (ht : TabAt w) (hs : 0 < w.heap.size) :
    Calls Tryd.prog 5 #[.slice A l.length cap, .int .u16 i, .int .u16 j, .int .u16 k] w fun e w' => e = .returned (.bool true) ∧ Below w.heap.size w w' := by
  have bu : ∀ {n : Int}, (Lit.int .u16 n).wf = true → 0 ≤ n ∧ n ≤ 65535 := fun {n} h => by
    simp [Lit.wf, IntKind.min, IntKind.max, IntKind.signed, IntKind.bits] at h
    omega
  have bi := bu wi
  have bj := bu wj
  have bk := bu wk
  obtain ⟨i', rfl⟩ : ∃ n : Nat, i = (n : Int) := ⟨i.toNat, by omega⟩
  obtain ⟨j', rfl⟩ : ∃ n : Nat, j = (n : Int) := ⟨j.toNat, by omega⟩
  obtain ⟨k', rfl⟩ : ∃ n : Nat, k = (n : Int) := ⟨k.toNat, by omega⟩
  exact walk A l cap i' j' k' w hl (by omega) (by omega) (by omega) hr ht hs

/-- The row's step: the arguments opened, the walk, the arguments read again. -/
theorem contract (H : Type) (enc : TypeId × Value → H) (W : World) (base : Nat) (args : Array Value) (ds gs : List (DataW H)) (before : List MemPlace)
    (hval : ∀ (j : Nat) t v, Tryd.f5.params[j]? = some t → args[j]? = some v → Value.okWide Tryd.prog W .any base t v)
    (hW : DataW.Whole enc Tryd.prog Tryd.f5.params.toList Rows.sumTurnedSpec.vars false W args.toList ds gs before) (hL : laidMetH Tryd.prog Rows.sumTurnedRow.laid W) :
    Calls Tryd.prog 5 args W fun e W' => ∃ v, e = .returned v ∧ Rows.sumTurnedSpec.post enc Tryd.prog Tryd.f5 false true false false W args v W' := by
  have hW' := hW
  obtain ⟨p, q, hA0, hV, rfl, hfz, hnd⟩ := hW
  have hA : DataW.TrodAll enc Tryd.prog W 0 (fun _ => true) true Tryd.f5.params.toList args.toList ds p := hA0
  rw [Tryd.params5] at hA hval
  obtain ⟨v0, vs0, d0, ds0, p0, q0, hargs, rfl, rfl, h0, r0⟩ := trodAll_cons hA
  obtain ⟨v1, vs1, d1, ds1, p1, q1, rfl, rfl, rfl, h1, r1⟩ := trodAll_cons r0
  obtain ⟨v2, vs2, d2, ds2, p2, q2, rfl, rfl, rfl, h2, r2⟩ := trodAll_cons r1
  obtain ⟨v3, vs3, d3, ds3, p3, q3, rfl, rfl, rfl, h3, r3⟩ := trodAll_cons r2
  obtain ⟨rfl, rfl, rfl⟩ := trodAll_nil r3
  obtain rfl : args = #[v0, v1, v2, v3] := by cases args; simp_all
  obtain ⟨rfl, rfl⟩ := trodVars_none hV
  have hsl0 := okWide_slice Tryd.underlying33 (hval 0 33 v0 rfl rfl)
  have k0 := h0
  have lt0 : ∀ x ∈ p0, x.block < W.heap.size := by obtain ⟨m, hm⟩ := k0; exact DataW.trod_lt m _ _ _ hm
  obtain ⟨A0, l0, cap0, rfl, hr0, hl0, hc0, hm0⟩ := open_bytes hsl0 h0
  obtain ⟨n1, rfl, rfl, rfl, wf1⟩ := open_int Tryd.underlying35 (hval 1 35 v1 rfl rfl) h1
  obtain ⟨n2, rfl, rfl, rfl, wf2⟩ := open_int Tryd.underlying35 (hval 2 35 v2 rfl rfl) h2
  obtain ⟨n3, rfl, rfl, rfl, wf3⟩ := open_int Tryd.underlying35 (hval 3 35 v3 rfl rfl) h3
  obtain ⟨ht, hs⟩ := tab_of hL
  clear hA0
  refine (walkInts A0 l0 cap0 n1 n2 n3 W hl0 hc0 hm0 hr0 wf1 wf2 wf3 ht hs).mono fun e W' ⟨he, bel⟩ => ?_
  subst he
  exact ⟨_, rfl, _, _, _, [], _, [], hW', trodAll_mk1 (shut_bool Tryd.underlying4 _), (trodAll_cons_mk (Below.trod laidOut (by kernel_rfl) (of_decide_eq_true (by kernel_rfl)) k0 bel lt0) (trodAll_cons_mk (shut_int Tryd.underlying35 wf1) (trodAll_cons_mk (shut_int Tryd.underlying35 wf2) (trodAll_cons_mk (shut_int Tryd.underlying35 wf3) trodAll_mk0)))), rfl, bel.frame _, fun h => by cases h⟩

theorem laid_met (os : Os) : laidMet Tryd.prog Rows.sumTurnedRow.laid ((laidWorld os).forCall (fun _ _ => 0) ⟨#[], #[.slice none 0 0, .int .u16 0, .int .u16 0, .int .u16 0], []⟩).memory :=
  laidMet_of_run' 8 (by kernel_rfl) (by kernel_rfl)
theorem reads (os : Os) {H : Type} (enc : TypeId × Value → H) : ∃ places, DataW.whole enc Tryd.prog ((laidWorld os).forCall (fun _ _ => 0) ⟨#[], #[.slice none 0 0, .int .u16 0, .int .u16 0, .int .u16 0], []⟩).memory Tryd.f5.params.toList Rows.sumTurnedSpec.vars false (#[.slice none 0 0, .int .u16 0, .int .u16 0, .int .u16 0] : Array Value).toList 8 = some ([.nil, .lit (.int .u16 0), .lit (.int .u16 0), .lit (.int .u16 0)], [], places) :=
  ⟨[], by kernel_rfl⟩

set_option maxRecDepth 100000 in
theorem lifted (os : Os) (started : os.Started) (H : Type) (enc : TypeId × Value → H) (F : Stop.Interp) :
    ReturnsInHanded {} Tryd.checked os 5 .any ((OpenSpec.ofChange Rows.sumTurnedSpec).preRow enc Tryd.prog Tryd.f5 Rows.sumTurnedRow.domain false Rows.sumTurnedRow.laid) (((OpenSpec.ofChange Rows.sumTurnedSpec).at F).post enc Tryd.prog Tryd.f5 false true false false) := by
  obtain ⟨places, hx⟩ := reads os enc
  refine returnsInHanded_of_row (C := Tryd.checked) (s := OpenSpec.ofChange Rows.sumTurnedSpec) own started (by kernel_rfl) Tryd.func5
    (witness_row_at (enc := enc) (C := Tryd.checked) false (laidWorld os) #[.slice none 0 0, .int .u16 0, .int .u16 0, .int .u16 0] rfl (by kernel_rfl) (by kernel_rfl) (by kernel_rfl)
      (OpenSpec.preRow_of_cond 8 hx (by kernel_rfl) (fun k hk => by cases hk) (by kernel_rfl) (laid_met os))) ?_
  intro W base args ds gs before hval hW _ _ _ hL _ _
  exact contract H enc W base args ds gs before hval hW hL

theorem said : Rows.SumTurnedSaid :=
  OpenClaim.holds_of_cond 5 Tryd.f5 rfl rfl rfl rfl rfl rfl rfl ⟨rfl, rfl, rfl, rfl, rfl⟩ rfl rfl rfl rfl rfl (by kernel_rfl) Tryd.func5 (by kernel_rfl)
    (of_decide_eq_true (by kernel_rfl)) (by unfold Func.isWrapper; first | (rw [if_pos (by decide +kernel)]; kernel_rfl) | (rw [if_neg (by decide +kernel)]; exact ⟨rfl, rfl⟩))
    (fun os started H enc _ F => by rw [OpenClaim.pre_eq_preRow]; exact lifted os started H enc F)

theorem plain (f : FuncId) (fn : Func) (hf : Tryd.pinned.checked.prog.funcNamed "augur/augurlaw1.SumTurned" = some f) (hfn : Tryd.pinned.checked.prog.funcs[f]? = some fn) :
    false = Tryd.pinned.checked.prog.looks [] ∧ ∀ (j : Nat) t, fn.params[j]? = some t → Tryd.pinned.checked.prog.wantsStandIn t = false := by
  obtain rfl : f = 5 := Option.some.inj ((show Tryd.prog.funcNamed "augur/augurlaw1.SumTurned" = some 5 by kernel_rfl).symm.trans hf) |>.symm
  obtain rfl : fn = Tryd.f5 := (Option.some.inj (Tryd.func5.symm.trans hfn)).symm
  refine ⟨by kernel_rfl, fun j t ht => ?_⟩
  rw [Tryd.params5] at ht
  have hm := Array.mem_of_getElem? ht
  simp only [List.mem_toArray, List.mem_cons, List.not_mem_nil, or_false] at hm
  rcases hm with rfl | rfl | rfl | rfl
  · exact (show Tryd.prog.wantsStandIn 33 = false by kernel_rfl)
  · exact (show Tryd.prog.wantsStandIn 35 = false by kernel_rfl)
  · exact (show Tryd.prog.wantsStandIn 35 = false by kernel_rfl)
  · exact (show Tryd.prog.wantsStandIn 35 = false by kernel_rfl)

/-- THE CARD. -/
theorem card : Rows.SumTurnedCardSaid :=
  Claim7.holds_tied_plain_at .later [] _ _ _ _ said (fun _ h => by cases h) (by kernel_rfl) (fun _ h => by cases h) sumTurned_row_tie rfl ⟨rfl, rfl⟩ (by kernel_rfl) rfl plain (by kernel_rfl)
end Go.Proofs.YtfkkbpiphcpljaaDoor.sumTurned
