/- The checksum's walks (Crc alone, over the half-byte table), as in stage 1's first text. -/
import Derived.Test.YtgjgnieobbhepaaDoorKBase
import Derived.Test.YtgjgnieobbhepaaDoorMath
namespace Go.Proofs.YtgjgnieobbhepaaDoor
open Go.RowKit

theorem ret_nat {k : IntKind} {a b : Nat} (h : a = b) : Ending.returned (.int k (a : Int)) = .returned (.int k (b : Int)) := by rw [h]
theorem val_nat {k : IntKind} {a b : Nat} (h : a = b) : Value.int k (a : Int) = .int k (b : Int) := by rw [h]
/-- A slice of bytes that reads as l: nothing is asked of an empty one. -/
def BytesAt (w : World) (A : Option Addr) (l : List UInt8) : Prop :=
  l = [] ∨ ∃ b off, A = some ⟨b, off, none⟩ ∧ ∀ k (h : k < l.length), w.cell? ⟨b, off + k, none⟩ = some (.int .u8 ((l[k].toNat : Nat) : Int))
/-- The table of half bytes, as it is laid at the start. -/
def TabAt (w : World) : Prop := ∀ m, m < 16 → w.cell? ⟨0, m, none⟩ = some (.int .u32 ((M.tab.getD m 0 : Nat) : Int))

/-- What one byte does, in the steps that the text takes. -/
theorem byte_steps {c b : Nat} (hc : c < 4294967296) (hb : b < 256) : ∃ x m1 t1 y m2 t2 z : Nat,
    bits .xor .u32 (c : Int) (b : Int) = (x : Int) ∧ bits .and .u32 (x : Int) 15 = (m1 : Int) ∧ m1 < 16 ∧ t1 = M.tab.getD m1 0 ∧
    bits .xor .u32 (t1 : Int) ((x : Int) / 16) = (y : Int) ∧ bits .and .u32 (y : Int) 15 = (m2 : Int) ∧ m2 < 16 ∧ t2 = M.tab.getD m2 0 ∧
    bits .xor .u32 (t2 : Int) ((y : Int) / 16) = (z : Int) ∧ z = M.byt c b ∧ x < 4294967296 ∧ y < 4294967296 ∧ z < 4294967296 := by
  have tl : ∀ m, M.tab.getD m 0 < 4294967296 := fun m => by
    by_cases h : m < 16
    · revert h; revert m; decide
    · have : M.tab[m]? = none := List.getElem?_eq_none (by simp [M.tab]; omega)
      simp [List.getD, this]
  have hx : c ^^^ b < 4294967296 := M.xor_lt32 hc (by omega)
  have hy := M.bit4_lt hx
  have hz := M.bit4_lt hy
  refine ⟨c ^^^ b, (c ^^^ b) % 16, M.tab.getD ((c ^^^ b) % 16) 0, M.bit4 (c ^^^ b), M.bit4 (c ^^^ b) % 16, M.tab.getD (M.bit4 (c ^^^ b) % 16) 0, M.byt c b, ?_, ?_, by omega, rfl, ?_, ?_, by omega, rfl, ?_, rfl, hx, hy, hz⟩
  · exact u32_xor_nat c b hc (by omega)
  · have := u32_and_nat (c ^^^ b) 15 hx (by omega)
    rw [nat_mask4] at this
    exact this
  · have := u32_xor_nat (M.tab.getD ((c ^^^ b) % 16) 0) ((c ^^^ b) / 16) (tl _) (by omega)
    rw [← M.bit4_half] at this
    rw [← this]
    simp
  · have := u32_and_nat (M.bit4 (c ^^^ b)) 15 hy (by omega)
    rw [nat_mask4] at this
    exact this
  · have := u32_xor_nat (M.tab.getD (M.bit4 (c ^^^ b) % 16) 0) (M.bit4 (c ^^^ b) / 16) (tl _) (by omega)
    rw [← M.bit4_half] at this
    show _ = ((M.bit4 (M.bit4 (c ^^^ b)) : Nat) : Int)
    rw [← this]
    simp

set_option maxHeartbeats 400000 in
theorem crcMore_any (c : Nat) (hc : c < 4294967296) (A : Option Addr) (l : List UInt8) (cap : Nat) (w : World) (hl : l.length ≤ maxLen) (hr : BytesAt w A l) (ht : TabAt w) :
    Calls Tryd.prog 62 #[.int .u32 (c : Int), .slice A l.length cap] w fun e w' => e = .returned (.int .u32 ((M.crun c l : Nat) : Int)) ∧ w = w' := by
  unfold maxLen at hl
  have HT := Lib.hid ht
  have HR := Lib.hid hr
  clear ht hr
  go_enter Tryd.func62, Tryd.ntmps62
  go_wp2
  go_loop [0, 9] (fun cv i => ∃ k c' : Nat, k ≤ l.length ∧ i = .int .i64 k ∧ cv = .int .u32 (c' : Int) ∧ c' = M.crun c (l.take k)) (fun _ i => l.length - (intOf i).toNat)
  case atStart => exact ⟨0, c, Nat.zero_le _, rfl, rfl, rfl⟩
  case round =>
    obtain ⟨k, c', hk, rfl, rfl, hc'⟩ := hrel
    have hlt' : c' < 4294967296 := by rw [hc']; exact M.crun_lt _ hc
    have HC := Lib.hid hc'
    clear hc'
    by_cases hlt : k < l.length
    · rcases HR.out with h0 | ⟨b, off, rfl, hcell⟩
      · subst h0; simp at hlt
      · have hb := hcell k hlt
        have hbl := M.u8_lt l[k]
        have HE := Lib.hid (M.crun_take hlt c)
        obtain ⟨bv, hbv⟩ : ∃ bv : Nat, bv = l[k].toNat := ⟨_, rfl⟩
        rw [← hbv] at hb hbl
        have HB := Lib.hid hbv
        clear hbv hcell
        obtain ⟨x, m1, t1, y, m2, t2, z, e1, e2, hm1, ht1, e3, e4, hm2, ht2, e5, hz, hx, hy, hz'⟩ := byte_steps hlt' hbl
        have c1 := HT.out m1 hm1
        have c2 := HT.out m2 hm2
        rw [← ht1] at c1
        rw [← ht2] at c2
        have HZ := Lib.hid hz
        clear ht1 ht2 hz
        go_wp2
        go_round
        case rel => exact ⟨k + 1, z, by omega, by go_num, rfl, by rw [HE.out, HZ.out, HC.out, HB.out]⟩
        case measure => simp [intOf]; omega
    · go_wp2
      go_ret
      exact ⟨ret_nat (by rw [HC.out, List.take_of_length_le (by omega)]), rfl⟩

/-- Rows of bytes. -/
def RowsAt (w : World) (A : Option Addr) (ls : List (List UInt8)) : Prop :=
  ls = [] ∨ ∃ b off, A = some ⟨b, off, none⟩ ∧ ∀ j (h : j < ls.length), ∃ Aj cap, w.cell? ⟨b, off + j, none⟩ = some (.slice Aj ls[j].length cap) ∧ BytesAt w Aj ls[j] ∧ ls[j].length ≤ maxLen

theorem not32 {c : Nat} (hc : c < 4294967296) : bits .xor .u32 IntKind.u32.max (c : Int) = ((4294967295 ^^^ c : Nat) : Int) := by
  have := u32_xor_nat 4294967295 c (by omega) hc
  rw [← this]
  rfl

set_option maxHeartbeats 400000 in
theorem crc_any (A : Option Addr) (ls : List (List UInt8)) (cap : Nat) (w : World) (hl : ls.length ≤ maxLen) (hr : RowsAt w A ls) (ht : TabAt w) :
    Calls Tryd.prog 52 #[.slice A ls.length cap] w fun e w' => e = .returned (.int .u32 ((M.crc ls : Nat) : Int)) ∧ w = w' := by
  unfold maxLen at hl
  have HT := Lib.hid ht
  have HR := Lib.hid hr
  clear ht hr
  go_enter Tryd.func52, Tryd.ntmps52
  go_wp2
  go_loop [3, 8] (fun cv i => ∃ k c' : Nat, k ≤ ls.length ∧ i = .int .i64 k ∧ cv = .int .u32 (c' : Int) ∧ c' = M.cruns 4294967295 (ls.take k)) (fun _ i => ls.length - (intOf i).toNat)
  case atStart => exact ⟨0, 4294967295, Nat.zero_le _, rfl, rfl, rfl⟩
  case round =>
    obtain ⟨k, c', hk, rfl, rfl, hc'⟩ := hrel
    have hlt' : c' < 4294967296 := by rw [hc']; exact M.cruns_lt _ (by omega)
    have HC := Lib.hid hc'
    clear hc'
    by_cases hlt : k < ls.length
    · rcases HR.out with h0 | ⟨b, off, rfl, hcell⟩
      · subst h0; simp at hlt
      · obtain ⟨Ak, capk, hck, hbk, hlk⟩ := hcell k hlt
        have HE := Lib.hid (M.cruns_take hlt 4294967295)
        have HLK := Lib.hid hlk
        have HBK := Lib.hid hbk
        clear hcell hlk hbk
        go_wp2_with (go_at_call 62; refine (crcMore_any c' hlt' _ _ _ _ HLK.out HBK.out HT.out).mono ?_; rintro e w' ⟨rfl, rfl⟩)
        go_round
        case rel => exact ⟨k + 1, _, by omega, by go_num, rfl, by rw [HE.out, HC.out]⟩
        case measure => simp [intOf]; omega
    · have e1 := not32 hlt'
      have HE := Lib.hid (show 4294967295 ^^^ c' = M.crc ls by rw [HC.out, List.take_of_length_le (by omega)]; rfl)
      go_wp2
      go_ret
      exact ⟨ret_nat HE.out, rfl⟩

theorem BytesIn.at {w : World} {g : Nat} {A : Option Addr} {l : List UInt8} (h : BytesIn w g A l) : BytesAt w A l := by
  rcases h with h | ⟨off, h1, h2⟩
  · exact .inl h
  · exact .inr ⟨g, off, h1, h2⟩
theorem TabAt.keep {S : List Nat} {w w' : World} (h : TabAt w) (hk : Keeps S w w') (h0 : 0 ∉ S) : TabAt w' := fun m hm => hk.cell_some (h m hm) h0
theorem TabAt.pos {w : World} (h : TabAt w) : 0 < w.heap.size := World.block_lt_of_cell? w _ (h 0 (by omega))
end Go.Proofs.YtgjgnieobbhepaaDoor
