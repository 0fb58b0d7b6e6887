/- The walks of the reference's fingerprint, of the statements' own small functions, and of the known answers. -/
import Derived.Test.YtfkkbpiphcpljaaDoorWalkA
import Derived.Test.YtfkkbpiphcpljaaDoorWalkB
import Derived.Lib.SlBytesConst
import Derived.Laws.IdiomStrings
import Derived.Laws.BytesString
import Derived.OwnWalk
import Derived.Maps.AppendAt
import Derived.Laws.OwnMore
namespace Go.Proofs.YtfkkbpiphcpljaaDoor
open Go.RowKit
open B (StrsAt texts)

set_option maxHeartbeats 800000 in
theorem refPrint_any (A : Option Addr) (ss : List ByteArray) (cap : Nat) (w : World) (hl : ss.length ≤ maxLen) (hr : StrsAt w A ss) :
    Calls Tryd.prog 13 #[.slice A ss.length cap] w fun e w' => e = .returned (.int .u64 ((M.fnv (texts ss) : Nat) : Int)) ∧ w = w' := by
  unfold maxLen at hl
  have HR := Lib.hid hr
  clear hr
  have HB : ∃ T : Nat, T = M.fnv (texts ss) := ⟨_, rfl⟩
  obtain ⟨T, hT⟩ := HB
  rw [← hT]
  have HT := Lib.hid hT
  clear hT
  go_enter Tryd.func13, Tryd.ntmps13
  go_wp2
  go_loop [3, 4] (fun hv i => ∃ k h' : Nat, k ≤ ss.length ∧ i = .int .i64 k ∧ hv = .int .u64 (h' : Int) ∧ h' < 18446744073709551616 ∧ h' = M.fruns 14695981039346656037 ((texts ss).take k)) (fun _ i => ss.length - (intOf i).toNat)
  case atStart => exact ⟨0, 14695981039346656037, Nat.zero_le _, rfl, rfl, by omega, B.fruns_none _ _⟩
  case round =>
    obtain ⟨k, h', hk, rfl, rfl, hl', hc'⟩ := hrel
    have HC := Lib.hid hc'
    have HL := Lib.hid hl'
    clear hc' hl'
    by_cases hlt : k < ss.length
    · rcases HR.out with h0 | ⟨b, off, rfl, hcell⟩
      · subst h0; simp at hlt
      · obtain ⟨hck, hlk⟩ := hcell k hlt
        unfold maxLen at hlk
        have HE := Lib.hid (M.fruns_take (ls := texts ss) (k := k) (by simpa [texts] using hlt) 14695981039346656037)
        have HS : Hid ((texts ss)[k]'(by simpa [texts] using hlt) = ss[k].data.toList) := Lib.hid (by simp [texts])
        obtain ⟨s, hs⟩ : ∃ s, s = ss[k] := ⟨_, rfl⟩
        rw [← hs] at hck hlk HS
        clear hcell hs
        obtain ⟨n, en, kn⟩ : ∃ n : Nat, (s.size : Int) % 4294967296 = (n : Int) ∧ n = s.size % 4294967296 := ⟨_, by simp, rfl⟩
        have ln : n < 4294967296 := by omega
        obtain ⟨b3, e3, k3⟩ : ∃ b : Nat, (n : Int) / 16777216 = (b : Int) ∧ b = n / 16777216 := ⟨_, by simp, rfl⟩
        obtain ⟨b2, e2, k2⟩ : ∃ b : Nat, (n : Int) / 65536 % 256 = (b : Int) ∧ b = n / 65536 % 256 := ⟨_, by simp, rfl⟩
        obtain ⟨b1, e1, k1⟩ : ∃ b : Nat, (n : Int) / 256 % 256 = (b : Int) ∧ b = n / 256 % 256 := ⟨_, by simp, rfl⟩
        obtain ⟨b0, e0, k0⟩ : ∃ b : Nat, (n : Int) % 256 = (b : Int) ∧ b = n % 256 := ⟨_, by simp, rfl⟩
        have l3 : b3 < 256 := by omega
        have l2 : b2 < 256 := by omega
        have l1 : b1 < 256 := by omega
        have l0 : b0 < 256 := by omega
        have HF := Lib.hid (show M.flen h' s.size = M.fb (M.fb (M.fb (M.fb h' b3) b2) b1) b0 by
          unfold M.flen
          rw [show s.size / 16777216 % 256 = b3 by omega, show s.size / 65536 % 256 = b2 by omega, show s.size / 256 % 256 = b1 by omega, show s.size % 256 = b0 by omega])
        clear k3 k2 k1 k0 kn
        go_wp2
        go_loop [3, 6] (fun hv i => ∃ h2 : Nat, hv = .int .u64 (h2 : Int) ∧ h2 < 18446744073709551616 ∧
            ((i = .int .i64 0 ∧ h2 = h') ∨ (i = .int .i64 1 ∧ h2 = M.fb h' b3) ∨ (i = .int .i64 2 ∧ h2 = M.fb (M.fb h' b3) b2) ∨ (i = .int .i64 3 ∧ h2 = M.fb (M.fb (M.fb h' b3) b2) b1) ∨ (i = .int .i64 4 ∧ h2 = M.flen h' s.size))) (fun _ i => (4 - intOf i).toNat)
        case atStart => exact ⟨h', rfl, HL.out, .inl ⟨rfl, rfl⟩⟩
        case round =>
          obtain ⟨h2, rfl, hl2, hrel⟩ := hrel
          rcases hrel with ⟨rfl, hr⟩ | ⟨rfl, hr⟩ | ⟨rfl, hr⟩ | ⟨rfl, hr⟩ | ⟨rfl, hr⟩
          all_goals
            have HRR := Lib.hid hr
            clear hr
          · have ex := u64_xor_nat h2 b3 hl2 (by omega)
            have HL2 := Lib.hid hl2
            clear hl2
            go_wp2
            go_round
            case rel => exact ⟨M.fb h2 b3, rfl, M.fb_lt _ _, .inr (.inl ⟨rfl, by rw [HRR.out]⟩)⟩
            case measure => simp [intOf]
          · have ex := u64_xor_nat h2 b2 hl2 (by omega)
            have HL2 := Lib.hid hl2
            clear hl2
            go_wp2
            go_round
            case rel => exact ⟨M.fb h2 b2, rfl, M.fb_lt _ _, .inr (.inr (.inl ⟨rfl, by rw [HRR.out]⟩))⟩
            case measure => simp [intOf]
          · have ex := u64_xor_nat h2 b1 hl2 (by omega)
            have HL2 := Lib.hid hl2
            clear hl2
            go_wp2
            go_round
            case rel => exact ⟨M.fb h2 b1, rfl, M.fb_lt _ _, .inr (.inr (.inr (.inl ⟨rfl, by rw [HRR.out]⟩)))⟩
            case measure => simp [intOf]
          · have ex := u64_xor_nat h2 b0 hl2 (by omega)
            have HL2 := Lib.hid hl2
            clear hl2
            go_wp2
            go_round
            case rel => exact ⟨M.fb h2 b0, rfl, M.fb_lt _ _, .inr (.inr (.inr (.inr ⟨rfl, by rw [HRR.out, HF.out]⟩)))⟩
            case measure => simp [intOf]
          · have HL2 := Lib.hid hl2
            clear hl2
            go_wp2
            go_loop [3, 7] (fun hv i => ∃ k' h3 : Nat, k' ≤ s.size ∧ i = .int .i64 k' ∧ hv = .int .u64 (h3 : Int) ∧ h3 < 18446744073709551616 ∧ h3 = M.frun (M.flen h' s.size) (s.data.toList.take k')) (fun _ i => s.size - (intOf i).toNat)
            case atStart => exact ⟨0, h2, Nat.zero_le _, rfl, rfl, HL2.out, by rw [HRR.out]; exact B.frun_none _ _⟩
            case round =>
              obtain ⟨k', h3, hk', rfl, rfl, hl3, hc3⟩ := hrel
              have HC3 := Lib.hid hc3
              clear hc3
              by_cases hlt2 : k' < s.size
              · have HE2 := Lib.hid (B.take_text s k' hlt2 (M.flen h' s.size))
                have hbl := M.u8_lt s[k']
                have ex := u64_xor_nat h3 s[k'].toNat hl3 (by omega)
                have HL3 := Lib.hid hl3
                clear hl3
                go_wp2
                go_round
                case rel => exact ⟨k' + 1, M.fb h3 s[k'].toNat, by omega, by go_num, rfl, M.fb_lt _ _, by rw [HE2.out, HC3.out]⟩
                case measure => simp [intOf]; omega
              · have HD := Lib.hid (show h3 = M.frun (M.flen h' s.size) s.data.toList by rw [HC3.out, List.take_of_length_le (by simp; omega)])
                have HL3 := Lib.hid hl3
                clear hl3
                go_wp2
                go_round
                case rel => exact ⟨k + 1, h3, by omega, by go_num, rfl, HL3.out, by rw [HE.out, HS.out, HD.out, HC.out]; exact B.fpart_text _ _⟩
                case measure => simp [intOf]; omega
    · have HE := Lib.hid (show h' = T by rw [HT.out, HC.out, List.take_of_length_le (by simp [texts]; omega)]; exact B.fnv_def _)
      go_wp2
      go_ret
      exact ⟨B.ret_nat HE.out, rfl⟩

/-! ### light -/
def lightB (ls : List (List UInt8)) : Bool := decide (ls.length ≤ 20 ∧ ∀ l ∈ ls, l.length ≤ 300)

set_option maxHeartbeats 400000 in
theorem light_any (A : Option Addr) (ls : List (List UInt8)) (cap : Nat) (w : World) (hl : ls.length ≤ maxLen) (hr : RowsAt w A ls) :
    Calls Tryd.prog 8 #[.slice A ls.length cap] w fun e w' => e = .returned (.bool (lightB ls)) ∧ w = w' := by
  unfold maxLen at hl
  have HR := Lib.hid hr
  clear hr
  obtain ⟨T, hT⟩ : ∃ T, T = lightB ls := ⟨_, rfl⟩
  rw [← hT]
  have HT := Lib.hid hT
  clear hT
  by_cases h20 : ls.length ≤ 20
  · have h20' : (ls.length : Int) ≤ 20 := by omega
    go_enter Tryd.func8, Tryd.ntmps8
    go_wp2
    go_loop [3] (fun i => ∃ k : Nat, k ≤ ls.length ∧ i = .int .i64 k ∧ ∀ l ∈ ls.take k, l.length ≤ 300) (fun i => ls.length - (intOf i).toNat)
    case atStart => exact ⟨0, Nat.zero_le _, rfl, by simp⟩
    case round =>
      obtain ⟨k, hk, rfl, hc'⟩ := hrel
      have HC := Lib.hid hc'
      clear hc'
      by_cases hlt : k < ls.length
      · rcases HR.out with h0 | ⟨b, off, rfl, hcell⟩
        · subst h0; simp at hlt
        · obtain ⟨Ak, capk, hck, -, hlk⟩ := hcell k hlt
          unfold maxLen at hlk
          clear hcell
          by_cases h3 : ls[k].length ≤ 300
          · have h3' : (ls[k].length : Int) ≤ 300 := by omega
            have HN : Hid (∀ l ∈ ls.take (k + 1), l.length ≤ 300) := Lib.hid (by
              intro l hm
              rw [List.take_succ_eq_append_getElem hlt] at hm
              rcases List.mem_append.1 hm with hm | hm
              · exact HC.out l hm
              · have : l = ls[k] := by simpa using hm
                rw [this]; exact h3)
            go_wp2
            go_round
            case rel => exact ⟨k + 1, by omega, by go_num, HN.out⟩
            case measure => simp [intOf]; omega
          · have h3' : 300 < (ls[k].length : Int) := by omega
            have HF : Hid (T = false) := Lib.hid (by
              rw [HT.out]
              unfold lightB
              exact decide_eq_false fun hh => h3 (hh.2 _ (List.getElem_mem hlt)))
            go_wp2
            go_ret
            exact ⟨by rw [HF.out]; rfl, rfl⟩
      · have HF : Hid (T = true) := Lib.hid (by
          rw [HT.out]
          unfold lightB
          refine decide_eq_true ⟨h20, fun l hm => HC.out l ?_⟩
          rw [List.take_of_length_le (by omega)]
          exact hm)
        go_wp2
        go_ret
        exact ⟨by rw [HF.out]; rfl, rfl⟩
  · have h20' : 20 < (ls.length : Int) := by omega
    have HF : Hid (T = false) := Lib.hid (by
      rw [HT.out]
      unfold lightB
      exact decide_eq_false fun hh => h20 hh.1)
    go_enter Tryd.func8, Tryd.ntmps8
    go_wp2
    go_ret
    exact ⟨by rw [HF.out]; rfl, rfl⟩

/-! ### Memory that is new -/
theorem TabAt.below {w w' : World} {B : Nat} (h : TabAt w) (hb : Below B w w') (hs : 0 < B) : TabAt w' := fun m hm => (hb.cell (p := ⟨0, m, none⟩) hs).trans (h m hm)
theorem TabAt.alloc {w : World} (h : TabAt w) (hs : 0 < w.heap.size) (o : Obj) : TabAt (w.alloc o) := h.below ((Below.refl w.heap.size w).alloc (Nat.le_refl _) o) hs
theorem cell_new {w : World} {C : Array Value} {t : TypeId} {fr : Nat × Nat} {g : Nat} (hg : g = w.heap.size) (j : Nat) : (w.alloc (.cells C t fr)).cell? ⟨g, j, none⟩ = C[j]? := by
  subst hg
  exact World.cell?_alloc_mark w C t fr j
theorem BytesAt.new {w : World} {l : List UInt8} {C : Array Value} {t : TypeId} {fr : Nat × Nat} {g : Nat} (hg : g = w.heap.size) (hC : ∀ k (h : k < l.length), C[k]? = some (.int .u8 ((l[k].toNat : Nat) : Int))) :
    BytesAt (w.alloc (.cells C t fr)) (some ⟨g, 0, none⟩) l :=
  .inr ⟨g, 0, rfl, fun k h => by rw [Nat.zero_add, cell_new hg, hC k h]⟩
theorem BytesAt.below {w w' : World} {A : Option Addr} {l : List UInt8} {B : Nat} (h : BytesAt w A l) (hb : Below B w w') (hlt : ∀ a, A = some a → a.block < B) : BytesAt w' A l := by
  rcases h with h | ⟨b, off, rfl, hc⟩
  · exact .inl h
  · exact .inr ⟨b, off, rfl, fun k hk => (hb.cell (p := ⟨b, off + k, none⟩) (show b < B from hlt ⟨b, off, none⟩ rfl)).trans (hc k hk)⟩
theorem StrsAt.new {w : World} {ss : List ByteArray} {C : Array Value} {t : TypeId} {fr : Nat × Nat} {g : Nat} (hg : g = w.heap.size) (hC : ∀ k (h : k < ss.length), C[k]? = some (.string ss[k]) ∧ ss[k].size ≤ maxLen) :
    StrsAt (w.alloc (.cells C t fr)) (some ⟨g, 0, none⟩) ss :=
  .inr ⟨g, 0, rfl, fun k h => ⟨by rw [Nat.zero_add, cell_new hg, (hC k h).1], (hC k h).2⟩⟩

/-! ### What is known -/
theorem known_crc : M.crc [[49, 50, 51, 52, 53], [54, 55, 56, 57]] = 3421780262 := by decide +kernel
theorem known_print0 : M.fnv (texts []) = 14695981039346656037 := by decide +kernel
def ab1 : Nat := M.fnv (texts [⟨#[97]⟩, ⟨#[98]⟩])
def ab2 : Nat := M.fnv (texts [⟨#[97, 98]⟩])
theorem ab_ne : ((ab1 : Int) == (ab2 : Int)) = false := by
  have h : ab1 ≠ ab2 := by decide +kernel
  simp
  omega
theorem ab_ne' : ((ab1 : Int) != (ab2 : Int)) = true := by simp [bne, ab_ne]

abbrev bytes5 : Array Value := #[.int .u8 49, .int .u8 50, .int .u8 51, .int .u8 52, .int .u8 53]
abbrev bytes4 : Array Value := #[.int .u8 54, .int .u8 55, .int .u8 56, .int .u8 57]
theorem known_call (w : World) (ht : TabAt w) (hs : 0 < w.heap.size) (c : Nat) (tb ts : TypeId) :
    Calls Tryd.prog 9 #[.slice (some ⟨w.heap.size + 2, 0, none⟩) 2 c] (((w.alloc (.cells bytes5 tb (5, 6))).alloc (.cells bytes4 tb (4, 5))).alloc (.cells #[.slice (some ⟨w.heap.size, 0, none⟩) 5 5, .slice (some ⟨w.heap.size + 1, 0, none⟩) 4 4] ts))
      fun e w' => e = .returned (.int .u32 3421780262) ∧ (((w.alloc (.cells bytes5 tb (5, 6))).alloc (.cells bytes4 tb (4, 5))).alloc (.cells #[.slice (some ⟨w.heap.size, 0, none⟩) 5 5, .slice (some ⟨w.heap.size + 1, 0, none⟩) 4 4] ts)) = w' := by
  have h := crc_any (some ⟨w.heap.size + 2, 0, none⟩) [[49, 50, 51, 52, 53], [54, 55, 56, 57]] c
    (((w.alloc (.cells bytes5 tb (5, 6))).alloc (.cells bytes4 tb (4, 5))).alloc (.cells #[.slice (some ⟨w.heap.size, 0, none⟩) 5 5, .slice (some ⟨w.heap.size + 1, 0, none⟩) 4 4] ts))
    (by simp [maxLen]) ?_ (((ht.alloc hs _).alloc (by simp) _).alloc (by simp) _)
  · rw [known_crc] at h
    exact h
  · have k1 : BytesAt (w.alloc (.cells bytes5 tb (5, 6))) (some ⟨w.heap.size, 0, none⟩) [49, 50, 51, 52, 53] := BytesAt.new rfl (fun k h => match k, h with | 0, _ => rfl | 1, _ => rfl | 2, _ => rfl | 3, _ => rfl | 4, _ => rfl)
    have k2 : BytesAt ((w.alloc (.cells bytes5 tb (5, 6))).alloc (.cells bytes4 tb (4, 5))) (some ⟨w.heap.size + 1, 0, none⟩) [54, 55, 56, 57] := BytesAt.new (by simp) (fun k h => match k, h with | 0, _ => rfl | 1, _ => rfl | 2, _ => rfl | 3, _ => rfl)
    refine .inr ⟨w.heap.size + 2, 0, rfl, fun j hj => ?_⟩
    have hcell : ∀ j, ((((w.alloc (.cells bytes5 tb (5, 6))).alloc (.cells bytes4 tb (4, 5))).alloc (.cells #[.slice (some ⟨w.heap.size, 0, none⟩) 5 5, .slice (some ⟨w.heap.size + 1, 0, none⟩) 4 4] ts))).cell? ⟨w.heap.size + 2, 0 + j, none⟩ = (#[.slice (some ⟨w.heap.size, 0, none⟩) 5 5, .slice (some ⟨w.heap.size + 1, 0, none⟩) 4 4] : Array Value)[j]? :=
      fun j => by rw [Nat.zero_add]; exact cell_new (by simp) j
    have b1 : Below (w.alloc (.cells bytes5 tb (5, 6))).heap.size (w.alloc (.cells bytes5 tb (5, 6))) (((w.alloc (.cells bytes5 tb (5, 6))).alloc (.cells bytes4 tb (4, 5))).alloc (.cells #[.slice (some ⟨w.heap.size, 0, none⟩) 5 5, .slice (some ⟨w.heap.size + 1, 0, none⟩) 4 4] ts)) :=
      ((Below.refl _ _).alloc (Nat.le_refl _) _).alloc (by simp) _
    have b2 : Below ((w.alloc (.cells bytes5 tb (5, 6))).alloc (.cells bytes4 tb (4, 5))).heap.size ((w.alloc (.cells bytes5 tb (5, 6))).alloc (.cells bytes4 tb (4, 5))) (((w.alloc (.cells bytes5 tb (5, 6))).alloc (.cells bytes4 tb (4, 5))).alloc (.cells #[.slice (some ⟨w.heap.size, 0, none⟩) 5 5, .slice (some ⟨w.heap.size + 1, 0, none⟩) 4 4] ts)) :=
      (Below.refl _ _).alloc (Nat.le_refl _) _
    match j, hj with
    | 0, _ => exact ⟨_, 5, by rw [hcell]; rfl, k1.below b1 (fun a ha => by cases ha; simp), by simp [maxLen]⟩
    | 1, _ => exact ⟨_, 4, by rw [hcell]; rfl, k2.below b2 (fun a ha => by cases ha; simp), by simp [maxLen]⟩
theorem print_none (c : Nat) (w : World) : Calls Tryd.prog 11 #[.slice none 0 c] w fun e w' => e = .returned (.int .u64 14695981039346656037) ∧ w = w' := by
  have h := B.print_any none [] c w (by simp) (.inl rfl)
  rw [known_print0] at h
  exact h
theorem le1 : 1 ≤ maxLen := by simp [maxLen]
theorem le2 : 2 ≤ maxLen := by simp [maxLen]
theorem print_ab1 (g c : Nat) (t : TypeId) (w : World) (hg : g = w.heap.size) : Calls Tryd.prog 11 #[.slice (some ⟨g, 0, none⟩) 2 c] (w.alloc (.cells #[.string ⟨#[97]⟩, .string ⟨#[98]⟩] t))
    fun e w' => e = .returned (.int .u64 (ab1 : Int)) ∧ (w.alloc (.cells #[.string ⟨#[97]⟩, .string ⟨#[98]⟩] t)) = w' :=
  B.print_any (some ⟨g, 0, none⟩) [⟨#[97]⟩, ⟨#[98]⟩] c _ (by simp [maxLen]) (StrsAt.new hg (fun k h => match k, h with | 0, _ => ⟨rfl, le1⟩ | 1, _ => ⟨rfl, le1⟩))
theorem print_ab2 (g c : Nat) (t : TypeId) (w : World) (hg : g = w.heap.size) : Calls Tryd.prog 11 #[.slice (some ⟨g, 0, none⟩) 1 c] (w.alloc (.cells #[.string ⟨#[97, 98]⟩] t))
    fun e w' => e = .returned (.int .u64 (ab2 : Int)) ∧ (w.alloc (.cells #[.string ⟨#[97, 98]⟩] t)) = w' :=
  B.print_any (some ⟨g, 0, none⟩) [⟨#[97, 98]⟩] c _ (by simp [maxLen]) (StrsAt.new hg (fun k h => match k, h with | 0, _ => ⟨rfl, le2⟩))

theorem known_any (w : World) (ht : TabAt w) (hs : 0 < w.heap.size) :
    Calls Tryd.prog 7 #[] w fun e w' => e = .returned (.bool true) ∧ Below w.heap.size w w' := by
  have kc := fun (w : World) (C : Array Value) (n c : Nat) => Lib.run_convert_bytes_const (P := Tryd.prog) w 33 5 C n c Tryd.underlying33 Tryd.underlying5
  have kc2 : ∀ (w : World) (o : Obj) (C : Array Value) (n c : Nat), (convert 33 33 (.slice (some ⟨w.heap.size + 1, 0, none⟩) n c)).run Tryd.prog ((w.alloc o).alloc (.cells C 5)) = .ok (.slice (some ⟨w.heap.size + 1, 0, none⟩) n c) ((w.alloc o).alloc (.cells C 5 (C.size, C.size + 1))) := by
    intro w o C n c
    have := kc (w.alloc o) C n c
    simpa using this
  have HT := Lib.hid ht
  have N1 := ab_ne
  have N2 := ab_ne'
  clear ht
  go_enter Tryd.func7, Tryd.ntmps7
  go_wp2_with (go_at_call 9; refine (known_call w HT.out hs _ _ _).mono ?_; rintro e w' ⟨rfl, rfl⟩)
  with_reducible refine (print_none _ _).mono ?_
  rintro e w' ⟨rfl, rfl⟩
  go_wp2_with fail
  refine (print_ab1 _ _ _ _ (by simp)).mono ?_
  rintro e w' ⟨rfl, rfl⟩
  go_wp2_with fail
  refine (print_ab2 _ _ _ _ (by simp)).mono ?_
  rintro e w' ⟨rfl, rfl⟩
  go_wp2_with fail
  go_ret
  exact ⟨rfl, by repeat (first | exact Below.refl _ _ | (refine Below.alloc ?_ (by simp <;> omega) _))⟩
end Go.Proofs.YtfkkbpiphcpljaaDoor
