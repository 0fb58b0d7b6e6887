/- Rows of records in memory; sectors, fit. -/
import Derived.Test.YtgjgnieobbhepaaDoorWNum
namespace Go.Proofs.YtgjgnieobbhepaaDoor
open Go.RowKit

/-- An element of a row of records: its bytes lie in a block of G. -/
def ElV (w : World) (G : Nat → Prop) (v : Value) (l : List UInt8) : Prop := ∃ A g cap, v = .slice A l.length cap ∧ BytesIn w g A l ∧ l.length ≤ cap ∧ cap ≤ maxLen ∧ (l = [] ∨ G g)
theorem ElV.keep {S : List Nat} {w w' : World} {G G' : Nat → Prop} {v : Value} {l : List UInt8} (h : ElV w G v l) (hk : Keeps S w w') (hS : ∀ x ∈ S, ¬ G x) (hG : ∀ x, G x → G' x) : ElV w' G' v l := by
  obtain ⟨A, g, cap, hv, hb, h1, h2, h3⟩ := h
  refine ⟨A, g, cap, hv, ?_, h1, h2, h3.imp id (hG g)⟩
  rcases h3 with rfl | h3
  · exact .inl rfl
  · exact hb.keep hk (fun hm => hS g hm h3)
theorem ElV.one {w : World} {G : Nat → Prop} {v : Value} {l : List UInt8} (h : ElV w G v l) : v.oneCell' = true := by
  obtain ⟨A, g, cap, rfl, _⟩ := h
  rfl
/-- A row of records that comes in. -/
def RowsIn (w : World) (G : Nat → Prop) (A : Option Addr) (ls : List (List UInt8)) : Prop :=
  ls = [] ∨ ∃ b off, A = some ⟨b, off, none⟩ ∧ G b ∧ ∀ j (h : j < ls.length), ∃ v, w.cell? ⟨b, off + j, none⟩ = some v ∧ ElV w G v ls[j]
theorem RowsIn.keep {S : List Nat} {w w' : World} {G G' : Nat → Prop} {A : Option Addr} {ls : List (List UInt8)} (h : RowsIn w G A ls) (hk : Keeps S w w') (hS : ∀ x ∈ S, ¬ G x) (hG : ∀ x, G x → G' x) : RowsIn w' G' A ls := by
  rcases h with h | ⟨b, off, hA, hb, hc⟩
  · exact .inl h
  · refine .inr ⟨b, off, hA, hG b hb, fun j hj => ?_⟩
    obtain ⟨v, h1, h2⟩ := hc j hj
    exact ⟨v, hk.cell_some h1 (fun hm => hS b hm hb), h2.keep hk hS hG⟩
theorem RowsIn.keep0 {w w' : World} {G : Nat → Prop} {A : Option Addr} {ls : List (List UInt8)} (h : RowsIn w G A ls) (hk : Keeps [] w w') : RowsIn w' G A ls := h.keep hk (by simp) (fun _ h => h)
theorem RowsIn.rows {w : World} {G : Nat → Prop} {A : Option Addr} {ls : List (List UInt8)} (h : RowsIn w G A ls) : RowsAt w A ls := by
  rcases h with h | ⟨b, off, hA, _, hc⟩
  · exact .inl h
  · refine .inr ⟨b, off, hA, fun j hj => ?_⟩
    obtain ⟨v, h1, A', g, cap, rfl, h2, h3, h4, _⟩ := hc j hj
    exact ⟨A', cap, h1, h2.at, by omega⟩
theorem body_le {ls : List (List UInt8)} {j : Nat} (h : j < ls.length) : ls[j].length ≤ (L.body ls).length := by
  induction ls generalizing j with
  | nil => simp at h
  | cons r ls ih =>
    rw [L.body_cons_len]
    cases j with
    | zero => simp; omega
    | succ j => simp at h; have := ih h; simp; omega
theorem body_take {ls : List (List UInt8)} {k : Nat} (h : k < ls.length) : (L.body (ls.take (k + 1))).length = (L.body (ls.take k)).length + (4 + ls[k].length) := by
  rw [List.take_succ_eq_append_getElem h, L.body_append, List.length_append]
  simp [L.body, L.le32_length]; try omega
theorem body_take_le (ls : List (List UInt8)) (k : Nat) : (L.body (ls.take k)).length ≤ (L.body ls).length := by
  conv => rhs; rw [← List.take_append_drop k ls, L.body_append, List.length_append]
  omega
theorem body_count (ls : List (List UInt8)) : 4 * ls.length ≤ (L.body ls).length := by
  induction ls with
  | nil => simp
  | cons r ls ih => rw [L.body_cons_len, List.length_cons]; omega
set_option maxHeartbeats 400000 in
theorem sectors_of (w : World) (G : Nat → Prop) (A : Option Addr) (ls : List (List UInt8)) (cap s : Nat) (hr : RowsIn w G A ls) (hb : (L.body ls).length ≤ 1099511627776) (hs : 1 ≤ s ∧ s ≤ 4096) :
    Calls Tryd.prog 36 #[.slice A ls.length cap, .int .i64 (s : Int)] w fun e w' => e = .returned (.int .i64 ((L.nsec ls s : Nat) : Int)) ∧ w = w' := by
  have hcount := body_count ls
  have HR := Lib.hid hr
  clear hr
  by_cases h0 : ls = []
  · subst h0
    go_enter Tryd.func36, Tryd.ntmps36
    go_wp2
    go_ret
    exact ⟨rfl, rfl⟩
  · have hpos : 0 < ls.length := List.length_pos_iff.2 h0
    have hz : ((ls.length : Int) == 0) = false := by rw [beq_eq_false_iff_ne]; omega
    have HN := Lib.hid (L.nsec_some h0 s)
    clear h0
    go_enter Tryd.func36, Tryd.ntmps36
    go_wp2
    go_loop [5, 13] (fun nv iv => ∃ k n : Nat, k ≤ ls.length ∧ iv = .int .i64 k ∧ nv = .int .i64 (n : Int) ∧ n = 9 + (L.body (ls.take k)).length) (fun _ iv => ls.length - (RowKit.intOf iv).toNat)
    case atStart => exact ⟨0, 9, Nat.zero_le _, rfl, rfl, rfl⟩
    case round =>
      obtain ⟨k, n, hk, rfl, rfl, hn⟩ := hrel
      have hle := body_take_le ls k
      have hnle : n ≤ 9 + (L.body ls).length := by omega
      have HN2 := Lib.hid hn
      clear hn hle
      by_cases hlt : k < ls.length
      · rcases HR.out with h0 | ⟨b, off, rfl, _, hc⟩
        · subst h0; simp at hpos
        · obtain ⟨v, hcv, A', g', cap', rfl, _⟩ := hc k hlt
          have hl := body_le hlt
          have HT := Lib.hid (body_take hlt)
          obtain ⟨m, hm⟩ : ∃ m, m = ls[k].length := ⟨_, rfl⟩
          rw [← hm] at hcv hl HT
          clear hc hm
          go_wp2
          go_round
          case rel => exact ⟨k + 1, n + (4 + m), by omega, by go_num, by go_num, by rw [HN2.out, HT.out]; omega⟩
          case measure => simp [RowKit.intOf]; omega
      · have HK := Lib.hid (show k = ls.length by omega)
        have e1 : ((n : Int) + (s : Int) - 1) / (s : Int) = ((L.nsec ls s : Nat) : Int) := by
          rw [HN.out, show 9 + (L.body ls).length = n by rw [HN2.out, List.take_of_length_le (by have := HK.out; omega)]]
          have : ((n + s - 1 : Nat) : Int) = (n : Int) + (s : Int) - 1 := by omega
          rw [← this]; rfl
        have HE := Lib.hid e1
        clear e1
        go_wp2
        go_ret
        exact ⟨ret_int HE.out, rfl⟩
/-- What fit tells. -/
def fitErr (free s : Nat) (ls : List (List UInt8)) : Nat := if ∃ r ∈ ls, 1048576 < r.length then 42 else if free < L.nsec ls s then 40 else 0
set_option maxHeartbeats 400000 in
theorem fit_any (w : World) (h : DH) (B : Nat → Prop) (d : Dk) (lp : Nat) (g : Lg) (G : Nat → Prop) (A : Option Addr) (ls : List (List UInt8)) (cap fr : Nat) (x : DskAt w h B d) (y : LogAt w lp h.p g) (hr : RowsIn w G A ls) (hb : (L.body ls).length ≤ 1099511627776) (hf : fr ≤ 4096) :
    Calls Tryd.prog 33 #[.pointer (some ⟨lp, 0, none⟩), .int .i64 (fr : Int), .slice A ls.length cap] w fun e w' => e = .returned (.int .i64 ((fitErr fr d.size ls : Nat) : Int)) ∧ w = w' := by
  obtain ⟨c0, _⟩ := y.cells
  have hsz := x.ok.size
  have hcount := body_count ls
  have HX := Lib.hid x
  have HR := Lib.hid hr
  clear x y hr
  go_enter Tryd.func33, Tryd.ntmps33
  go_wp2
  go_loop [11] (fun iv => ∃ k : Nat, k ≤ ls.length ∧ iv = .int .i64 k ∧ ∀ j (hj : j < ls.length), j < k → ls[j].length ≤ 1048576) (fun iv => ls.length - (RowKit.intOf iv).toNat)
  case atStart => exact ⟨0, Nat.zero_le _, rfl, fun j _ h => by omega⟩
  case round =>
    obtain ⟨k, hk, rfl, hall⟩ := hrel
    have HALL := Lib.hid hall
    clear hall
    by_cases hlt : k < ls.length
    · rcases HR.out with h0 | ⟨b, off, rfl, _, hc⟩
      · subst h0; simp at hlt
      · obtain ⟨v, hcv, A', g', cap', rfl, _⟩ := hc k hlt
        by_cases hgt : 1048576 < ls[k].length
        · have HE := Lib.hid (show fitErr fr d.size ls = 42 from if_pos ⟨ls[k], List.getElem_mem hlt, hgt⟩)
          obtain ⟨m, hm⟩ : ∃ m, m = ls[k].length := ⟨_, rfl⟩
          rw [← hm] at hcv hgt
          clear hc hm
          go_wp2
          go_ret
          exact ⟨by rw [HE.out]; rfl, rfl⟩
        · have HNXT := Lib.hid (show ∀ j (hj : j < ls.length), j < k + 1 → ls[j].length ≤ 1048576 from fun j hj hjk => by
            by_cases hjk2 : j = k
            · subst hjk2; omega
            · exact HALL.out j hj (by omega))
          obtain ⟨m, hm⟩ : ∃ m, m = ls[k].length := ⟨_, rfl⟩
          rw [← hm] at hcv hgt
          clear hc hm
          go_wp2
          go_round
          case rel => exact ⟨k + 1, by omega, by go_num, HNXT.out⟩
          case measure => simp [RowKit.intOf]; omega
    · have HNO := Lib.hid (show ¬ ∃ r ∈ ls, 1048576 < r.length by
        rintro ⟨r, hr, hl⟩
        obtain ⟨j, hj, rfl⟩ := List.getElem_of_mem hr
        have := HALL.out j hj (by omega)
        omega)
      by_cases hfull : fr < L.nsec ls d.size
      · have HE := Lib.hid (show fitErr fr d.size ls = 40 by unfold fitErr; rw [if_neg HNO.out, if_pos hfull])
        go_wp2_with fail
        refine (size_any w h B d HX.out).mono ?_
        rintro e w' ⟨rfl, rfl⟩
        go_wp2_with fail
        refine (sectors_of w G A ls cap d.size HR.out hb (by omega)).mono ?_
        rintro e w' ⟨rfl, rfl⟩
        go_wp2_with fail
        go_ret
        exact ⟨by rw [HE.out]; rfl, rfl⟩
      · have HE := Lib.hid (show fitErr fr d.size ls = 0 by unfold fitErr; rw [if_neg HNO.out, if_neg hfull])
        go_wp2_with fail
        refine (size_any w h B d HX.out).mono ?_
        rintro e w' ⟨rfl, rfl⟩
        go_wp2_with fail
        refine (sectors_of w G A ls cap d.size HR.out hb (by omega)).mono ?_
        rintro e w' ⟨rfl, rfl⟩
        go_wp2_with fail
        go_ret
        exact ⟨by rw [HE.out]; rfl, rfl⟩
end Go.Proofs.YtgjgnieobbhepaaDoor
