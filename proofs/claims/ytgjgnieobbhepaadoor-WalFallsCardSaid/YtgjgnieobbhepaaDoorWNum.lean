/- need; numbers of four bytes in memory: number, putNumber; rows of records: sectors, fit. -/
import Derived.Test.YtgjgnieobbhepaaDoorWBase
namespace Go.Proofs.YtgjgnieobbhepaaDoor
open Go.RowKit

/-! ### A block of bytes known whole -/
def U8At (w : World) (g : Nat) (l : List UInt8) : Prop := w.heap[g]? = some (.cells (u8s l).toArray 5 (0, 0))
theorem U8At.cell {w : World} {g : Nat} {l : List UInt8} (h : U8At w g l) {i : Nat} (hi : i < l.length) : w.cell? ⟨g, i, none⟩ = some (.int .u8 ((l[i].toNat : Nat) : Int)) := by
  rw [row_cell h]; simp [u8s_get hi]
theorem U8At.bytes {w : World} {g : Nat} {l : List UInt8} (h : U8At w g l) : BytesIn w g (some ⟨g, 0, none⟩) l := .inr ⟨0, rfl, fun k hk => by rw [Nat.zero_add]; exact h.cell hk⟩
theorem U8At.part {w : World} {g : Nat} {l : List UInt8} (h : U8At w g l) (a n : Nat) (ha : a + n ≤ l.length) : BytesIn w g (some ⟨g, a, none⟩) ((l.drop a).take n) := .inr ⟨a, rfl, fun k hk => by
  have hk' : k < n := by simp at hk; omega
  rw [h.cell (by omega)]; simp⟩
theorem U8At.set {w : World} {g : Nat} {l : List UInt8} (h : U8At w g l) (i : Nat) (b : UInt8) : U8At (w.setCell ⟨g, i, none⟩ (.int .u8 ((b.toNat : Nat) : Int))) g (l.set i b) := by
  unfold U8At
  rw [row_set h]
  simp [u8s, List.map_set]
theorem U8At.put {w : World} {g : Nat} {l : List UInt8} (h : U8At w g l) (i : Nat) (b : UInt8) (v : Value) (hv : v = .int .u8 ((b.toNat : Nat) : Int)) : U8At (w.setCell ⟨g, i, none⟩ v) g (l.set i b) := by rw [hv]; exact h.set i b
theorem U8At.keep {S : List Nat} {w w' : World} {g : Nat} {l : List UInt8} (h : U8At w g l) (hk : Keeps S w w') (hn : g ∉ S) : U8At w' g l := block_keep h hk hn
theorem u8_val {n : Nat} : ((UInt8.ofNat n).toNat : Int) = ((n % 256 : Nat) : Int) := by rw [L.ofNat_toNat]
/-- m written over l from off on. -/
def over (l : List UInt8) (off : Nat) (m : List UInt8) : List UInt8 := l.take off ++ m ++ l.drop (off + m.length)
theorem over_nil (l : List UInt8) (off : Nat) : over l off [] = l := by simp [over]
theorem over_length {l m : List UInt8} {off : Nat} (h : off + m.length ≤ l.length) : (over l off m).length = l.length := by simp [over]; omega
theorem set_mid {X Z : List UInt8} {y b : UInt8} {k : Nat} (h : X.length = k) : (X ++ y :: Z).set k b = X ++ b :: Z := by subst h; simp
theorem over_next {l m : List UInt8} {off : Nat} (b : UInt8) (h : off + m.length < l.length) : (over l off m).set (off + m.length) b = over l off (m ++ [b]) := by
  have e1 : over l off m = (l.take off ++ m) ++ l[off + m.length]'h :: l.drop (off + m.length + 1) := by
    unfold over; rw [List.drop_eq_getElem_cons h]
  have e2 : over l off (m ++ [b]) = (l.take off ++ m) ++ b :: l.drop (off + m.length + 1) := by
    unfold over; simp [Nat.add_assoc]
  rw [e1, e2]
  exact set_mid (by simp; omega)
theorem over_part {l m : List UInt8} {off : Nat} (h : off + m.length ≤ l.length) : ((over l off m).drop off).take m.length = m := by
  have h1 : (l.take off).length = off := by simp; omega
  unfold over
  rw [List.append_assoc, ← h1]
  simp [List.drop_left, List.take_append]

/-! ### need -/
set_option maxHeartbeats 400000 in
theorem need_yes (w : World) : Calls Tryd.prog 68 #[.bool true] w fun e w' => e = .returned (.tuple #[]) ∧ w = w' := by
  go_enter Tryd.func68, Tryd.ntmps68
  go_wp2
  go_end0
  exact ⟨rfl, rfl⟩
/-- The panic that ends the reading. -/
def stopped : List PanicEntry := [{ v := .iface 108 (.agg #[.int .i64 0]), recovered := false }]
set_option maxHeartbeats 400000 in
theorem need_no (w : World) : Calls Tryd.prog 68 #[.bool false] w fun e w' => e = .panicked stopped ∧ w = w' := by
  go_enter Tryd.func68, Tryd.ntmps68
  go_wp2
  exact ⟨rfl, rfl, rfl⟩

/-! ### number, putNumber -/
/-- The first i bytes' worth of a number. -/
def low32 (l : List UInt8) (i : Nat) : Nat := ((List.range i).map fun j => (l.getD j 0).toNat * 256 ^ j).sum
theorem low32_step (l : List UInt8) (i : Nat) : low32 l (i + 1) = low32 l i + (l.getD i 0).toNat * 256 ^ i := by simp [low32, List.range_succ]
theorem low32_zero (l : List UInt8) : low32 l 0 = 0 := rfl
theorem low32_four (l : List UInt8) : low32 l 4 = L.de32 l := by
  have e1 : (256 : Nat) ^ 1 = 256 := Nat.pow_one _
  have e2 : (256 : Nat) ^ 2 = 65536 := by decide
  have e3 : (256 : Nat) ^ 3 = 16777216 := by decide
  rw [low32_step, low32_step, low32_step, low32_step, low32_zero, Nat.pow_zero, e1, e2, e3, Nat.mul_one, Nat.zero_add, Nat.mul_comm _ 256, Nat.mul_comm _ 65536, Nat.mul_comm _ 16777216]
  rfl
theorem low32_lt (l : List UInt8) : ∀ i, low32 l i < 256 ^ i
  | 0 => by simp [low32]
  | i + 1 => by
    have := low32_lt l i
    have hb := M.u8_lt (l.getD i 0)
    have h2 : (l.getD i 0).toNat * 256 ^ i ≤ 255 * 256 ^ i := Nat.mul_le_mul_right _ (by omega)
    rw [low32_step, Nat.pow_succ]; omega
theorem or_low {n b i : Nat} (hn : n < 256 ^ i) (hi : i < 4) (hb : b < 256) : bits .or .u32 (n : Int) ((b * 256 ^ i : Nat) : Int) = ((n + b * 256 ^ i : Nat) : Int) ∧ n + b * 256 ^ i < 4294967296 := by
  have e : (256 : Nat) ^ i = 2 ^ (8 * i) := by rw [show (256 : Nat) = 2 ^ 8 by decide, ← Nat.pow_mul]
  have hp : (256 : Nat) ^ i ≤ 256 ^ 3 := Nat.pow_le_pow_right (by decide) (by omega)
  have hp' : (256 : Nat) ^ 3 = 16777216 := by decide
  have h2 : b * 256 ^ i ≤ 255 * 256 ^ i := Nat.mul_le_mul_right _ (by omega)
  refine ⟨?_, by omega⟩
  rw [u32_or_nat n (b * 256 ^ i) (by omega) (by omega), Nat.or_comm, nat_join (8 * i) (b * 256 ^ i) n (by rw [e]; exact Nat.mul_mod_left _ _) (by rw [← e]; exact hn), Nat.add_comm]
theorem shl_by {b : Nat} (k : Nat) (hk : k ≤ 32) (p : Nat) (hp : 2 ^ k = p) (hb : b * p < 4294967296) : IntKind.u32.wrap ((b : Int) * 2 ^ min (Int.toNat (k : Int)) IntKind.u32.bits) = ((b * p : Nat) : Int) := by
  have e1 : min (Int.toNat (k : Int)) IntKind.u32.bits = k := by
    rw [Int.toNat_natCast]; exact Nat.min_eq_left hk
  have e2 : (2 : Int) ^ k = (p : Int) := by rw [← hp]; push_cast; rfl
  rw [e1, e2, IntKind.wrap_u32']
  omega
set_option maxRecDepth 100000 in
set_option maxHeartbeats 800000 in
theorem number_any (w : World) (g cap : Nat) (A : Option Addr) (l : List UInt8) (hr : BytesIn w g A l) (h4 : 4 ≤ l.length) : Calls Tryd.prog 69 #[.slice A l.length cap] w fun e w' => e = .returned (.int .u32 ((L.de32 l : Nat) : Int)) ∧ w = w' := by
  rcases hr with rfl | ⟨off, rfl, hcell⟩
  · simp at h4
  · have HC := Lib.hid hcell
    have HE := Lib.hid (low32_four l)
    clear hcell
    obtain ⟨n, hn⟩ : ∃ n, n = l.length := ⟨_, rfl⟩
    have HN := Lib.hid hn
    rw [← hn] at h4 ⊢
    clear hn
    go_enter Tryd.func69, Tryd.ntmps69
    go_wp2
    go_loop [2, 4] (fun nv iv => ∃ i acc : Nat, i ≤ 4 ∧ iv = .int .i64 i ∧ nv = .int .u32 (acc : Int) ∧ acc = low32 l i) (fun _ iv => 4 - (RowKit.intOf iv).toNat)
    case atStart => exact ⟨0, 0, by omega, rfl, rfl, rfl⟩
    case round =>
      obtain ⟨i, acc, hi, rfl, rfl, hacc⟩ := hrel
      have HA := Lib.hid hacc
      clear hacc
      by_cases hlt : i < 4
      · have hb := M.u8_lt (l[i]'(by have := HN.out; omega))
        have hc := HC.out i (by have := HN.out; omega)
        have hg : l.getD i 0 = l[i]'(by have := HN.out; omega) := by rw [List.getD_eq_getElem?_getD, List.getElem?_eq_getElem (by have := HN.out; omega), Option.getD_some]
        have hst := low32_step l i
        rw [hg, ← HA.out] at hst
        have hal := low32_lt l i
        rw [← HA.out] at hal
        obtain ⟨b, hbe⟩ : ∃ b : Nat, b = (l[i]'(by have := HN.out; omega)).toNat := ⟨_, rfl⟩
        rw [← hbe] at hb hc hst
        obtain ⟨e1, e2⟩ := or_low hal hlt hb
        have HST := Lib.hid hst
        clear hst hg hbe hal
        obtain rfl | rfl | rfl | rfl : i = 0 ∨ i = 1 ∨ i = 2 ∨ i = 3 := by omega
        · have e0 : (256 : Nat) ^ 0 = 1 := by decide
          rw [e0] at e1 e2
          have e3 := shl_by (b := b) 0 (by omega) (1) (by decide) (by omega)
          simp only [Nat.add_zero] at hc
          have E1 := Lib.hid e1
          clear e1
          go_wp2
          go_round
          case rel => exact ⟨1, acc + b * 1, by omega, rfl, by rw [← E1.out]; simp, by rw [HST.out, e0]⟩
          case measure => simp [RowKit.intOf]
        · have e0 : (256 : Nat) ^ 1 = 256 := by decide
          rw [e0] at e1 e2
          have e3 := shl_by (b := b) 8 (by omega) (256) (by decide) (by omega)
          skip
          have E1 := Lib.hid e1
          clear e1
          go_wp2
          go_round
          case rel => exact ⟨2, acc + b * 256, by omega, rfl, by rw [← E1.out]; simp, by rw [HST.out, e0]⟩
          case measure => simp [RowKit.intOf]
        · have e0 : (256 : Nat) ^ 2 = 65536 := by decide
          rw [e0] at e1 e2
          have e3 := shl_by (b := b) 16 (by omega) (65536) (by decide) (by omega)
          skip
          have E1 := Lib.hid e1
          clear e1
          go_wp2
          go_round
          case rel => exact ⟨3, acc + b * 65536, by omega, rfl, by rw [← E1.out]; simp, by rw [HST.out, e0]⟩
          case measure => simp [RowKit.intOf]
        · have e0 : (256 : Nat) ^ 3 = 16777216 := by decide
          rw [e0] at e1 e2
          have e3 := shl_by (b := b) 24 (by omega) (16777216) (by decide) (by omega)
          skip
          have E1 := Lib.hid e1
          clear e1
          go_wp2
          go_round
          case rel => exact ⟨4, acc + b * 16777216, by omega, rfl, by rw [← E1.out]; simp, by rw [HST.out, e0]⟩
          case measure => simp [RowKit.intOf]
      · go_wp2
        go_ret
        exact ⟨ret_nat (by rw [HA.out, ← HE.out, show i = 4 by omega]), rfl⟩

theorem le32_get (n i : Nat) (hi : i < 4) : ∃ b : UInt8, b = UInt8.ofNat (n / 256 ^ i) ∧ (L.le32 n).take (i + 1) = (L.le32 n).take i ++ [b] := by
  have e2 : (256 : Nat) ^ 2 = 65536 := by decide
  have e3 : (256 : Nat) ^ 3 = 16777216 := by decide
  refine ⟨_, rfl, ?_⟩
  obtain rfl | rfl | rfl | rfl : i = 0 ∨ i = 1 ∨ i = 2 ∨ i = 3 := by omega
  · rw [Nat.pow_zero, Nat.div_one]; rfl
  · rw [Nat.pow_one]; rfl
  · rw [e2]; rfl
  · rw [e3]; rfl
set_option maxRecDepth 100000 in
set_option maxHeartbeats 800000 in
theorem putNumber_any (w : World) (g off len cap : Nat) (l : List UInt8) (n : Nat) (hr : U8At w g l) (h4 : off + 4 ≤ l.length) (hlen : 4 ≤ len) (hn : n < 4294967296) :
    Calls Tryd.prog 51 #[.slice (some ⟨g, off, none⟩) len cap, .int .u32 (n : Int)] w fun e w' => e = .returned (.tuple #[]) ∧ U8At w' g (over l off (L.le32 n)) ∧ Keeps [g] w w' := by
  have HR := Lib.hid hr
  have HL := Lib.hid h4
  clear hr h4
  go_enter Tryd.func51, Tryd.ntmps51
  go_wp2
  go_loopw [5] (fun iv wr => ∃ i : Nat, i ≤ 4 ∧ iv = .int .i64 i ∧ U8At wr g (over l off ((L.le32 n).take i)) ∧ Keeps [g] w wr) (fun iv _ => 4 - (RowKit.intOf iv).toNat)
  case atStart => exact ⟨0, by omega, rfl, by rw [List.take_zero, over_nil]; exact HR.out, Keeps.refl _ _⟩
  case round =>
    obtain ⟨i, hi, rfl, hu, hk⟩ := hrel
    by_cases hlt : i < 4
    · obtain ⟨b, hb, ht⟩ := le32_get n i hlt
      have hlen' : ((L.le32 n).take i).length = i := by simp [L.le32]; omega
      have hll := HL.out
      have hol : (over l off ((L.le32 n).take i)).length = l.length := over_length (by rw [hlen']; omega)
      obtain ⟨y, hc⟩ : ∃ y : Value, wr.cell? ⟨g, off + i, none⟩ = some y := ⟨_, hu.cell (i := off + i) (by rw [hol]; omega)⟩
      have hz := row_free hu (off + i)
      have HS := Lib.hid (hu.put (off + i) b)
      have HON := Lib.hid (show (over l off ((L.le32 n).take i)).set (off + i) b = over l off ((L.le32 n).take (i + 1)) by
        have := over_next (l := l) (m := (L.le32 n).take i) (off := off) b (by rw [hlen']; omega)
        rw [hlen'] at this
        rw [this, ht])
      have HB := Lib.hid hb
      have HK := Lib.hid hk
      clear hu hk hb ht hlen' hol
      obtain rfl | rfl | rfl | rfl : i = 0 ∨ i = 1 ∨ i = 2 ∨ i = 3 := by omega
      · have e0 : (256 : Nat) ^ 0 = 1 := by decide
        have HE := Lib.hid e0
        clear e0
        simp only [Nat.add_zero] at hc hz
        go_wp2
        go_roundw
        case rel =>
          refine ⟨1, by omega, rfl, ?_, HK.out.setCell (by simp) _⟩
          rw [← HON.out]
          exact HS.out _ (by rw [HB.out, L.ofNat_toNat, HE.out]; congr 1; try omega)
        case measure => simp [RowKit.intOf]
      · have e0 : (256 : Nat) ^ 1 = 256 := by decide
        have HE := Lib.hid e0
        clear e0
        skip
        go_wp2
        go_roundw
        case rel =>
          refine ⟨2, by omega, rfl, ?_, HK.out.setCell (by simp) _⟩
          rw [← HON.out]
          exact HS.out _ (by rw [HB.out, L.ofNat_toNat, HE.out]; congr 1; try omega)
        case measure => simp [RowKit.intOf]
      · have e0 : (256 : Nat) ^ 2 = 65536 := by decide
        have HE := Lib.hid e0
        clear e0
        skip
        go_wp2
        go_roundw
        case rel =>
          refine ⟨3, by omega, rfl, ?_, HK.out.setCell (by simp) _⟩
          rw [← HON.out]
          exact HS.out _ (by rw [HB.out, L.ofNat_toNat, HE.out]; congr 1; try omega)
        case measure => simp [RowKit.intOf]
      · have e0 : (256 : Nat) ^ 3 = 16777216 := by decide
        have HE := Lib.hid e0
        clear e0
        skip
        go_wp2
        go_roundw
        case rel =>
          refine ⟨4, by omega, rfl, ?_, HK.out.setCell (by simp) _⟩
          rw [← HON.out]
          exact HS.out _ (by rw [HB.out, L.ofNat_toNat, HE.out]; congr 1; try omega)
        case measure => simp [RowKit.intOf]
    · have HS := Lib.hid (show U8At wr g (over l off (L.le32 n)) by
        have : (L.le32 n).take i = L.le32 n := List.take_of_length_le (by simp [L.le32]; omega)
        rw [this] at hu; exact hu)
      have HK := Lib.hid hk
      clear hu hk
      go_wp2
      go_end0
      exact ⟨rfl, HS.out, HK.out⟩
end Go.Proofs.YtgjgnieobbhepaaDoor
