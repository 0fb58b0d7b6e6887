/- The walk of 'texts' (rows of bytes turned into strings), and of the statement SumTells. -/
import Derived.Test.YtfkkbpiphcpljaaDoorWalkC
namespace Go.Proofs.YtfkkbpiphcpljaaDoor
open Go.RowKit
open B (StrsAt texts)

theorem BytesAt.keep {w w' : World} {A : Option Addr} {l : List UInt8} (h : BytesAt w A l) (hb : Below w.heap.size w w') : BytesAt w' A l := by
  rcases h with h | ⟨b, off, rfl, hc⟩
  · exact .inl h
  · exact .inr ⟨b, off, rfl, fun k hk => (hb.cell (World.block_lt_of_cell? w _ (hc k hk))).trans (hc k hk)⟩
theorem RowsAt.keep {w w' : World} {A : Option Addr} {ls : List (List UInt8)} (h : RowsAt w A ls) (hb : Below w.heap.size w w') : RowsAt w' A ls := by
  rcases h with h | ⟨b, off, rfl, hc⟩
  · exact .inl h
  · refine .inr ⟨b, off, rfl, fun k hk => ?_⟩
    obtain ⟨Aj, cap, h1, h2, h3⟩ := hc k hk
    exact ⟨Aj, cap, (hb.cell (World.block_lt_of_cell? w _ h1)).trans h1, h2.keep hb, h3⟩
theorem StrsAt.keep {w w' : World} {A : Option Addr} {ss : List ByteArray} (h : StrsAt w A ss) (hb : Below w.heap.size w w') : StrsAt w' A ss := by
  rcases h with h | ⟨b, off, rfl, hc⟩
  · exact .inl h
  · exact .inr ⟨b, off, rfl, fun k hk => ⟨(hb.cell (World.block_lt_of_cell? w _ (hc k hk).1)).trans (hc k hk).1, (hc k hk).2⟩⟩

def strOf (l : List UInt8) : ByteArray := ⟨l.toArray⟩
theorem texts_strOf (ls : List (List UInt8)) : texts (ls.map strOf) = ls := by
  unfold texts
  rw [List.map_map]
  have : ((fun s : ByteArray => s.data.toList) ∘ strOf) = id := by funext l; rfl
  rw [this, List.map_id]

/-- string(b). -/
theorem conv_text (w : World) (A : Option Addr) (l : List UInt8) (cap : Nat) (h : BytesAt w A l) :
    (convert 33 9 (.slice A l.length cap)).run Tryd.prog w = .ok (.string (strOf l)) w := by
  rcases A with _ | a
  · rcases h with rfl | ⟨b, off, h, _⟩
    · rw [run_convert_bytes_string w _ _ 5 none _ cap Tryd.underlying33 Tryd.underlying5 Tryd.underlying9]
      rfl
    · cases h
  · refine run_convert_bytes_back w _ _ 5 a cap l Tryd.underlying33 Tryd.underlying5 Tryd.underlying9 fun j hj => ?_
    rcases h with rfl | ⟨b, off, h, hc⟩
    · simp at hj
    · cases h
      have := hc j hj
      unfold Addr.add
      by_cases h0 : j = 0
      · subst h0; simpa using this
      · simpa [h0] using this
theorem string_info : (Tryd.prog.info? 9).map (fun i => (i.zero, i.size, i.bytes)) = some (some (.string .empty), 1, 16) := by kernel_rfl

/-- What a slice of strings that the call owns reads as. -/
theorem strs_of_own {w : World} {base : Nat} {v : Value} {n : Nat} {ss : List ByteArray} (h : w.ownsRow base 9 1 v n (ss.map Value.string)) (hs : ∀ s ∈ ss, s.size ≤ maxLen) :
    ∃ A cap, v = .slice A ss.length cap ∧ StrsAt w A ss := by
  have hn : ss.length = n := by simpa using h.1
  rcases h.2 with ⟨rfl, h0⟩ | ⟨g, cap, cur, rfl, hb, hg, hle, hm, hsz, htake⟩
  · have : ss = [] := List.eq_nil_of_length_eq_zero (by omega)
    subst this
    exact ⟨none, 0, rfl, .inl rfl⟩
  · refine ⟨some ⟨g, 0, none⟩, cap, by rw [hn], .inr ⟨g, 0, rfl, fun j hj => ⟨?_, hs _ (List.getElem_mem hj)⟩⟩⟩
    rw [Nat.zero_add, cell_of_row w g j cur _ (0, 0) hg]
    have h1 : (cur.toList.take (n * 1))[j]? = (ss.map Value.string)[j]? := by rw [htake]
    rw [List.getElem?_take_of_lt (by omega), List.getElem?_map, List.getElem?_eq_getElem hj] at h1
    simpa using h1

/-- The cells of the first k rows, as strings. -/
def strCells (ls : List (List UInt8)) (k : Nat) : List Value := ((ls.take k).map strOf).map Value.string
theorem strCells_next {ls : List (List UInt8)} {k : Nat} (h : k < ls.length) : strCells ls (k + 1) = strCells ls k ++ [Value.string (strOf ls[k])] := by
  unfold strCells
  rw [List.take_succ_eq_append_getElem h, List.map_append, List.map_append]
  rfl

set_option maxHeartbeats 800000 in
theorem texts_any (A : Option Addr) (ls : List (List UInt8)) (cap : Nat) (w : World) (hl : ls.length ≤ 20) (h300 : ∀ l ∈ ls, l.length ≤ 300) (hr : RowsAt w A ls) :
    Calls Tryd.prog 12 #[.slice A ls.length cap] w fun e w' => ∃ A' cap', e = .returned (.slice A' ls.length cap') ∧ StrsAt w' A' (ls.map strOf) ∧ Below w.heap.size w w' := by
  have HR := Lib.hid hr
  have H3 := Lib.hid h300
  clear hr h300
  obtain ⟨i0, hi, hz0, hz1, hz2⟩ := info_parts string_info
  go_enter Tryd.func12, Tryd.ntmps12
  go_wp2
  go_loopw [3, 4] (fun v i wr => ∃ k : Nat, k ≤ ls.length ∧ i = .int .i64 k ∧ wr.ownsRow w.heap.size 9 1 v k (strCells ls k) ∧ Below w.heap.size w wr) (fun _ i _ => ls.length - (intOf i).toNat)
  case atStart => exact ⟨0, Nat.zero_le _, rfl, World.ownsRow_nil _ _ _ _, Below.refl _ _⟩
  case round =>
    obtain ⟨k, hk, rfl, hown, hbel⟩ := hrel
    by_cases hlt : k < ls.length
    · rcases HR.out.keep hbel with h0 | ⟨b, off, rfl, hcell⟩
      · subst h0; simp at hlt
      · obtain ⟨Ak, capk, hck, hbk, hlk⟩ := hcell k hlt
        have hk3 := H3.out ls[k] (List.getElem_mem hlt)
        have hcv := conv_text wr Ak ls[k] capk hbk
        have HN := Lib.hid (strCells_next hlt)
        clear hcell hbk hlk
        go_wp2_with (at_builtin; refine wpList_append_own _ rfl _ _ 30 rfl w.heap.size 9 i0 (.string .empty) 1 16 Tryd.underlying30 hi hz0 hz1 hz2 rfl (by decide) _ _ _ rfl (hown.alloc _) ⟨wr.heap.size, 0, none⟩ 1 1 [.string (strOf ls[k])] rfl rfl ?c1 ?c2 ?c3 ?c4 ?c5 ?_)
        case c1 =>
          intro j u hj
          match j, hj with
          | 0, hj => simp at hj; subst hj; simp [Addr.add]
        case c2 => intro u hu; simp at hu; subst hu; rfl
        case c3 => unfold maxLen; omega
        case c4 => omega
        case c5 => have := hbel.size; simp; omega
        · intro v' w1 hown' hgrow _
          have hb1 : Below w.heap.size w w1 := (hbel.alloc hbel.size _).grown hgrow (by have := hbel.size; simp; omega) (fun j hj => (hown.lt j hj).1)
          have HO := Lib.hid hown'
          have HB1 := Lib.hid hb1
          clear hown' hgrow hown hbel hcv hb1
          go_wp2
          go_roundw
          case rel => exact ⟨k + 1, by omega, by go_num, by rw [HN.out]; exact HO.out, HB1.out⟩
          case measure => simp [intOf]; omega
    · have hke : k = ls.length := by omega
      subst hke
      unfold strCells at hown
      rw [List.take_length] at hown
      obtain ⟨A', cap', hv, hst⟩ := strs_of_own hown (by
        intro s hs
        obtain ⟨l, hl', rfl⟩ := List.mem_map.1 hs
        have := H3.out l hl'
        simp only [strOf, ByteArray.size, List.size_toArray, maxLen]
        omega)
      rw [hv]
      have HS := Lib.hid hst
      clear hown hv hst
      go_wp2
      go_ret
      exact ⟨A', cap', by simp, HS.out, hbel⟩
end Go.Proofs.YtfkkbpiphcpljaaDoor
