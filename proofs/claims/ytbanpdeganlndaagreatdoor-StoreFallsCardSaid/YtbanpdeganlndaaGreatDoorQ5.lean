/- Merged: WRows WFrame WMake WPerf WSettle WSteps WChange RegLast -/
import Derived.Test.YtbanpdeganlndaaGreatDoorQ4
import Derived.Lib.SlBuf
import Derived.Lib.BufferWrite
import Derived.Maps.AppendAt
import Derived.Test.YtbanpdeganlndaaGreatDoorQ1
namespace Go.Proofs.YtbanpdeganlndaaGreatDoor
open Go.RowKit

/-- An element of a row of records: its bytes lie in a block of G. -/
def ElV (w : World) (G : Nat → Prop) (v : Value) (l : List UInt8) : Prop := ∃ A g cap, v = .slice A l.length cap ∧ BytesIn w g A l ∧ l.length ≤ cap ∧ cap ≤ maxLen ∧ (l = [] ∨ G g)
theorem ElV.keep {S : List Nat} {w w' : World} {G G' : Nat → Prop} {v : Value} {l : List UInt8} (h : ElV w G v l) (hk : Keeps S w w') (hS : ∀ x ∈ S, ¬ G x) (hG : ∀ x, G x → G' x) : ElV w' G' v l := by
  obtain ⟨A, g, cap, hv, hb, h1, h2, h3⟩ := h
  refine ⟨A, g, cap, hv, ?_, h1, h2, h3.imp id (hG g)⟩
  rcases h3 with rfl | h3
  · exact .inl rfl
  · exact hb.keep hk (fun hm => hS g hm h3)
theorem ElV.one {w : World} {G : Nat → Prop} {v : Value} {l : List UInt8} (h : ElV w G v l) : v.oneCell' = true := by
  obtain ⟨A, g, cap, rfl, _⟩ := h
  rfl
/-- A row of records that comes in. -/
def RowsIn (w : World) (G : Nat → Prop) (A : Option Addr) (ls : List (List UInt8)) : Prop :=
  ls = [] ∨ ∃ b off, A = some ⟨b, off, none⟩ ∧ G b ∧ ∀ j (h : j < ls.length), ∃ v, w.cell? ⟨b, off + j, none⟩ = some v ∧ ElV w G v ls[j]
theorem RowsIn.keep {S : List Nat} {w w' : World} {G G' : Nat → Prop} {A : Option Addr} {ls : List (List UInt8)} (h : RowsIn w G A ls) (hk : Keeps S w w') (hS : ∀ x ∈ S, ¬ G x) (hG : ∀ x, G x → G' x) : RowsIn w' G' A ls := by
  rcases h with h | ⟨b, off, hA, hb, hc⟩
  · exact .inl h
  · refine .inr ⟨b, off, hA, hG b hb, fun j hj => ?_⟩
    obtain ⟨v, h1, h2⟩ := hc j hj
    exact ⟨v, hk.cell_some h1 (fun hm => hS b hm hb), h2.keep hk hS hG⟩
theorem RowsIn.keep0 {w w' : World} {G : Nat → Prop} {A : Option Addr} {ls : List (List UInt8)} (h : RowsIn w G A ls) (hk : Keeps [] w w') : RowsIn w' G A ls := h.keep hk (by simp) (fun _ h => h)
theorem RowsIn.rows {w : World} {G : Nat → Prop} {A : Option Addr} {ls : List (List UInt8)} (h : RowsIn w G A ls) : RowsAt w A ls := by
  rcases h with h | ⟨b, off, hA, _, hc⟩
  · exact .inl h
  · refine .inr ⟨b, off, hA, fun j hj => ?_⟩
    obtain ⟨v, h1, A', g, cap, rfl, h2, h3, h4, _⟩ := hc j hj
    exact ⟨A', cap, h1, h2.at, by omega⟩
theorem body_le {ls : List (List UInt8)} {j : Nat} (h : j < ls.length) : ls[j].length ≤ (L.body ls).length := by
  induction ls generalizing j with
  | nil => simp at h
  | cons r ls ih =>
    rw [L.body_cons_len]
    cases j with
    | zero => simp; omega
    | succ j => simp at h; have := ih h; simp; omega
theorem body_take {ls : List (List UInt8)} {k : Nat} (h : k < ls.length) : (L.body (ls.take (k + 1))).length = (L.body (ls.take k)).length + (4 + ls[k].length) := by
  rw [List.take_succ_eq_append_getElem h, L.body_append, List.length_append]
  simp [L.body, L.le32_length]; try omega
theorem body_take_le (ls : List (List UInt8)) (k : Nat) : (L.body (ls.take k)).length ≤ (L.body ls).length := by
  conv => rhs; rw [← List.take_append_drop k ls, L.body_append, List.length_append]
  omega
theorem body_count (ls : List (List UInt8)) : 4 * ls.length ≤ (L.body ls).length := by
  induction ls with
  | nil => simp
  | cons r ls ih => rw [L.body_cons_len, List.length_cons]; omega
set_option maxHeartbeats 400000 in
theorem sectors_of (w : World) (G : Nat → Prop) (A : Option Addr) (ls : List (List UInt8)) (cap s : Nat) (hr : RowsIn w G A ls) (hb : (L.body ls).length ≤ 1099511627776) (hs : 1 ≤ s ∧ s ≤ 4096) :
    Calls Tryz.prog 84 #[.slice A ls.length cap, .int .i64 (s : Int)] w fun e w' => e = .returned (.int .i64 ((L.nsec ls s : Nat) : Int)) ∧ w = w' := by
  have hcount := body_count ls
  have HR := Lib.hid hr
  clear hr
  by_cases h0 : ls = []
  · subst h0
    go_enter Tryz.func84, Tryz.ntmps84
    go_wp2
    go_ret
    exact ⟨rfl, rfl⟩
  · have hpos : 0 < ls.length := List.length_pos_iff.2 h0
    have hz : ((ls.length : Int) == 0) = false := by rw [beq_eq_false_iff_ne]; omega
    have HN := Lib.hid (L.nsec_some h0 s)
    clear h0
    go_enter Tryz.func84, Tryz.ntmps84
    go_wp2
    go_loop [5, 13] (fun nv iv => ∃ k n : Nat, k ≤ ls.length ∧ iv = .int .i64 k ∧ nv = .int .i64 (n : Int) ∧ n = 9 + (L.body (ls.take k)).length) (fun _ iv => ls.length - (RowKit.intOf iv).toNat)
    case atStart => exact ⟨0, 9, Nat.zero_le _, rfl, rfl, rfl⟩
    case round =>
      obtain ⟨k, n, hk, rfl, rfl, hn⟩ := hrel
      have hle := body_take_le ls k
      have hnle : n ≤ 9 + (L.body ls).length := by omega
      have HN2 := Lib.hid hn
      clear hn hle
      by_cases hlt : k < ls.length
      · rcases HR.out with h0 | ⟨b, off, rfl, _, hc⟩
        · subst h0; simp at hpos
        · obtain ⟨v, hcv, A', g', cap', rfl, _⟩ := hc k hlt
          have hl := body_le hlt
          have HT := Lib.hid (body_take hlt)
          obtain ⟨m, hm⟩ : ∃ m, m = ls[k].length := ⟨_, rfl⟩
          rw [← hm] at hcv hl HT
          clear hc hm
          go_wp2
          go_round
          case rel => exact ⟨k + 1, n + (4 + m), by omega, by go_num, by go_num, by rw [HN2.out, HT.out]; omega⟩
          case measure => simp [RowKit.intOf]; omega
      · have HK := Lib.hid (show k = ls.length by omega)
        have e1 : ((n : Int) + (s : Int) - 1) / (s : Int) = ((L.nsec ls s : Nat) : Int) := by
          rw [HN.out, show 9 + (L.body ls).length = n by rw [HN2.out, List.take_of_length_le (by have := HK.out; omega)]]
          have : ((n + s - 1 : Nat) : Int) = (n : Int) + (s : Int) - 1 := by omega
          rw [← this]; rfl
        have HE := Lib.hid e1
        clear e1
        go_wp2
        go_ret
        exact ⟨ret_int HE.out, rfl⟩
/-- What fit tells. -/
def fitErr (free s : Nat) (ls : List (List UInt8)) : Nat := if ∃ r ∈ ls, 1048576 < r.length then 42 else if free < L.nsec ls s then 40 else 0
set_option maxHeartbeats 400000 in
theorem fit_any (w : World) (h : DH) (B : Nat → Prop) (d : Dk) (lp : Nat) (g : Lg) (G : Nat → Prop) (A : Option Addr) (ls : List (List UInt8)) (cap fr : Nat) (x : DskAt w h B d) (y : LogAt w lp h.p g) (hr : RowsIn w G A ls) (hb : (L.body ls).length ≤ 1099511627776) (hf : fr ≤ 4096) :
    Calls Tryz.prog 81 #[.pointer (some ⟨lp, 0, none⟩), .int .i64 (fr : Int), .slice A ls.length cap] w fun e w' => e = .returned (.int .i64 ((fitErr fr d.size ls : Nat) : Int)) ∧ w = w' := by
  obtain ⟨c0, _⟩ := y.cells
  have hsz := x.ok.size
  have hcount := body_count ls
  have HX := Lib.hid x
  have HR := Lib.hid hr
  clear x y hr
  go_enter Tryz.func81, Tryz.ntmps81
  go_wp2
  go_loop [11] (fun iv => ∃ k : Nat, k ≤ ls.length ∧ iv = .int .i64 k ∧ ∀ j (hj : j < ls.length), j < k → ls[j].length ≤ 1048576) (fun iv => ls.length - (RowKit.intOf iv).toNat)
  case atStart => exact ⟨0, Nat.zero_le _, rfl, fun j _ h => by omega⟩
  case round =>
    obtain ⟨k, hk, rfl, hall⟩ := hrel
    have HALL := Lib.hid hall
    clear hall
    by_cases hlt : k < ls.length
    · rcases HR.out with h0 | ⟨b, off, rfl, _, hc⟩
      · subst h0; simp at hlt
      · obtain ⟨v, hcv, A', g', cap', rfl, _⟩ := hc k hlt
        by_cases hgt : 1048576 < ls[k].length
        · have HE := Lib.hid (show fitErr fr d.size ls = 42 from if_pos ⟨ls[k], List.getElem_mem hlt, hgt⟩)
          obtain ⟨m, hm⟩ : ∃ m, m = ls[k].length := ⟨_, rfl⟩
          rw [← hm] at hcv hgt
          clear hc hm
          go_wp2
          go_ret
          exact ⟨by rw [HE.out]; rfl, rfl⟩
        · have HNXT := Lib.hid (show ∀ j (hj : j < ls.length), j < k + 1 → ls[j].length ≤ 1048576 from fun j hj hjk => by
            by_cases hjk2 : j = k
            · subst hjk2; omega
            · exact HALL.out j hj (by omega))
          obtain ⟨m, hm⟩ : ∃ m, m = ls[k].length := ⟨_, rfl⟩
          rw [← hm] at hcv hgt
          clear hc hm
          go_wp2
          go_round
          case rel => exact ⟨k + 1, by omega, by go_num, HNXT.out⟩
          case measure => simp [RowKit.intOf]; omega
    · have HNO := Lib.hid (show ¬ ∃ r ∈ ls, 1048576 < r.length by
        rintro ⟨r, hr, hl⟩
        obtain ⟨j, hj, rfl⟩ := List.getElem_of_mem hr
        have := HALL.out j hj (by omega)
        omega)
      by_cases hfull : fr < L.nsec ls d.size
      · have HE := Lib.hid (show fitErr fr d.size ls = 40 by unfold fitErr; rw [if_neg HNO.out, if_pos hfull])
        go_wp2_with fail
        refine (size_any w h B d HX.out).mono ?_
        rintro e w' ⟨rfl, rfl⟩
        go_wp2_with fail
        refine (sectors_of w G A ls cap d.size HR.out hb (by omega)).mono ?_
        rintro e w' ⟨rfl, rfl⟩
        go_wp2_with fail
        go_ret
        exact ⟨by rw [HE.out]; rfl, rfl⟩
      · have HE := Lib.hid (show fitErr fr d.size ls = 0 by unfold fitErr; rw [if_neg HNO.out, if_neg hfull])
        go_wp2_with fail
        refine (size_any w h B d HX.out).mono ?_
        rintro e w' ⟨rfl, rfl⟩
        go_wp2_with fail
        refine (sectors_of w G A ls cap d.size HR.out hb (by omega)).mono ?_
        rintro e w' ⟨rfl, rfl⟩
        go_wp2_with fail
        go_ret
        exact ⟨by rw [HE.out]; rfl, rfl⟩
end Go.Proofs.YtbanpdeganlndaaGreatDoor
namespace Go.Proofs.YtbanpdeganlndaaGreatDoor
open Go.RowKit

/-- New bytes, in a block of their own. -/
def MadeP (l : List UInt8) (w : World) (e : Ending) (w' : World) : Prop := ∃ g, e = .returned (.slice (some ⟨g, 0, none⟩) l.length l.length) ∧ U8At w' g l ∧ w.heap.size ≤ g ∧ Keeps [] w w'
theorem made_row {w : World} {base n g : Nat} (h : w.ownsRow base 5 1 (.slice (some ⟨g, 0, none⟩) n n) n (madeCells #[Value.int .u8 0] n).toList) : U8At w g (List.replicate n 0) := by
  rcases h.2 with ⟨h0, _⟩ | ⟨g', cp, cur, h2, _, h3, _, _, h4, h5⟩
  · cases h0
  · cases h2
    rw [List.take_of_length_le (by rw [Array.length_toList]; omega)] at h5
    have e : cur = madeCells #[Value.int .u8 0] n := Array.ext' h5
    unfold U8At
    rw [h3, e]
    congr 2
    apply Array.ext
    · simp [madeCells, u8s]
    · intro j q1 q2
      simp [madeCells, u8s, Nat.mod_one]
theorem u8_setRow {w : World} {g : Nat} {l : List UInt8} {cs : Array Value} {l' : List UInt8} (h : U8At w g l) (hc : cs = (u8s l').toArray) : U8At (w.setRow g cs) g l' := by
  have := setRow_heap w g (u8s l).toArray cs 5 (0, 0) h
  unfold U8At
  rw [this, hc]
theorem u8s_over (l m : List UInt8) (off : Nat) : ((u8s l).toArray.toList.take off ++ u8s m ++ (u8s l).toArray.toList.drop (off + (u8s m).length)).toArray = (u8s (over l off m)).toArray := by
  unfold over u8s
  simp
theorem keeps_row {S : List Nat} {a w : World} {g : Nat} {cs : Array Value} (h : Keeps S a w) (hg : g < a.heap.size → g ∈ S) : Keeps S a (w.setRow g cs) := by
  have hk : Keeps [g] w (w.setRow g cs) := ⟨rfl, rfl, rfl, by simp [World.setRow], fun k _ hn => by
    have hne : g ≠ k := fun e => hn (by simp [e])
    simp [World.setRow, Array.getElem?_modify, hne]⟩
  refine h.trans hk (fun i hi hl => ?_)
  obtain rfl : i = g := by simpa using hi
  exact hg hl
/-- copy(b[off:], m), m from wherever. -/
theorem run_copy_over {w : World} {g off dl dc sc gs : Nat} {A : Option Addr} {l m : List UInt8} (ty : TypeId) (hg : U8At w g l) (hm : BytesIn w gs A m) (hfit : m.length ≤ dl) (hoff : off + dl ≤ l.length) :
    ∃ w', (Builtin.copy_ #[62, 62] ty #[.slice (some ⟨g, off, none⟩) dl dc, .slice A m.length sc]).run Tryz.prog w = .ok (goInt m.length) w' ∧ U8At w' g (over l off m) ∧ Keeps [g] w w' := by
  have hsz : (Tryz.prog.info? 5).map (·.size) = some 1 := by kernel_rfl
  rcases hm with h0 | ⟨o, rfl, hc⟩
  · subst h0
    have := run_copy_none (P := Tryz.prog) w 62 62 ty 5 (some ⟨g, off, none⟩) A dl dc 0 sc Tryz.underlying62 hsz (by simp)
    exact ⟨w, this, by rw [over_nil]; exact hg, Keeps.refl _ _⟩
  · have h := run_copy_row (P := Tryz.prog) w 62 62 ty 5 g off dl dc ⟨gs, o, none⟩ m.length sc (u8s l).toArray 5 (u8s m) Tryz.underlying62 hsz hg (by rw [u8s_length]; exact (Nat.min_eq_left hfit).symm) (fun j u hj => by
      have hjl : j < m.length := by
        have := (List.getElem?_eq_some_iff.1 hj).1
        simpa [u8s] using this
      rw [u8s_get hjl] at hj
      cases hj
      rw [Addr.add_lit]
      exact hc j hjl) (by simp [u8s]; omega) (u8s_one m)
    rw [u8s_length] at h
    refine ⟨_, h, u8_setRow hg ?_, keeps_row (Keeps.refl _ _) (by simp)⟩
    have := u8s_over l m off
    rw [u8s_length] at this
    exact this
/-- copy(b[off:], "..."). -/
theorem run_copy_text {w : World} {g off dl dc : Nat} {s : ByteArray} {l : List UInt8} (ty : TypeId) (hg : U8At w g l) (hfit : s.size ≤ dl) (hoff : off + dl ≤ l.length) :
    ∃ w', (Builtin.copy_ #[62, 9] ty #[.slice (some ⟨g, off, none⟩) dl dc, .string s]).run Tryz.prog w = .ok (goInt s.size) w' ∧ U8At w' g (over l off s.data.toList) ∧ Keeps [g] w w' := by
  have hsz : (Tryz.prog.info? 5).map (·.size) = some 1 := by kernel_rfl
  have h := Lib.run_copy_row_string (P := Tryz.prog) w 62 9 ty 5 g off dl dc s (u8s l).toArray 5 Tryz.underlying62 hsz hg hfit (by simp [u8s]; omega)
  refine ⟨_, h, u8_setRow hg ?_, keeps_row (Keeps.refl _ _) (by simp)⟩
  have := u8s_over l s.data.toList off
  rw [u8s_length] at this
  exact this

section
variable {ops : Array Oper} {rest : List Oper} {o : Oper} {a : Act} {Q : Exit → Act → World → Prop} {w : World}
theorem wpList_copy_over (hgd : o.guard = none) (d s : Operand) (ho : o.op = .call { callee := .builtin .copy, args := #[d, s], argTypes := #[62, 62] }) (l m : List UInt8) (g gs off dl dc sc : Nat) (A : Option Addr)
    (hd : a.eval d = .slice (some ⟨g, off, none⟩) dl dc) (hs : a.eval s = .slice A m.length sc) (hg : U8At w g l) (hm : BytesIn w gs A m) (hfit : m.length ≤ dl) (hoff : off + dl ≤ l.length)
    (h : ∀ w', U8At w' g (over l off m) → Keeps [g] w w' → wpList Tryz.prog ops Q rest (a.put o.dst (goInt m.length)) w') : wpList Tryz.prog ops Q (o :: rest) a w := by
  obtain ⟨w', h1, h2, h3⟩ := run_copy_over (dc := dc) (sc := sc) o.type hg hm hfit hoff
  exact Lib.wpList_copy_run w hgd d s _ _ ho _ _ hd hs h1 (h w' h2 h3)
theorem wpList_copy_text (hgd : o.guard = none) (d s : Operand) (ho : o.op = .call { callee := .builtin .copy, args := #[d, s], argTypes := #[62, 9] }) (l : List UInt8) (t : ByteArray) (g off dl dc : Nat)
    (hd : a.eval d = .slice (some ⟨g, off, none⟩) dl dc) (hs : a.eval s = .string t) (hg : U8At w g l) (hfit : t.size ≤ dl) (hoff : off + dl ≤ l.length)
    (h : ∀ w', U8At w' g (over l off t.data.toList) → Keeps [g] w w' → wpList Tryz.prog ops Q rest (a.put o.dst (goInt t.size)) w') : wpList Tryz.prog ops Q (o :: rest) a w := by
  obtain ⟨w', h1, h2, h3⟩ := run_copy_text (dc := dc) o.type hg hfit hoff
  exact Lib.wpList_copy_run w hgd d s _ _ ho _ _ hd hs h1 (h w' h2 h3)
end
theorem head_bytes {a s : Nat} (hs : 12 ≤ s) : over ((List.replicate s 0).set 0 (UInt8.ofNat (a + 1))) 1 L.magic = L.hd a s := by
  obtain ⟨n, rfl⟩ : ∃ n, s = n + 12 := ⟨s - 12, by omega⟩
  rw [show n + 12 = (n + 11) + 1 by rfl, List.replicate_succ, List.set_cons_zero]
  unfold over L.hd
  simp [L.magic]
set_option maxRecDepth 100000 in
set_option maxHeartbeats 1000000 in
theorem head_any (w : World) (a s : Nat) (ha : a ≤ 1) (hs : 64 ≤ s ∧ s ≤ 4096) : Calls Tryz.prog 73 #[.int .i64 (a : Int), .int .i64 (s : Int)] w (MadeP (L.hd a s) w) := by
  obtain ⟨iU, hU, hU0, hU1, hU2⟩ := info_parts infoU8
  obtain ⟨bt, hbt⟩ : ∃ bt, bt = UInt8.ofNat (a + 1) := ⟨_, rfl⟩
  have HB := Lib.hid (show over ((List.replicate s 0).set 0 bt) 1 L.magic = L.hd a s by rw [hbt]; exact head_bytes (a := a) (s := s) (by omega))
  have HBT := Lib.hid hbt
  clear hbt
  have HL := Lib.hid (L.hd_length (a := a) (s := s) (by omega))
  go_enter Tryz.func73, Tryz.ntmps73
  go_wp2_with (at_make; refine wpList_make_full _ rfl _ _ 62 rfl w.heap.size 5 iU (.int .u8 0) 1 Tryz.underlying62 hU hU0 hU1 .i64 .i64 (s : Int) (s : Int) s rfl rfl rfl rfl (by rw [hU2]; omega) (by unfold maxLen; omega) (Nat.le_refl _) ?_)
  intro w1 ho1 hg1
  have hk1 : Keeps [] w w1 := (Keeps.of_grown hg1).mono (by simp)
  have hz1 := made_row ho1
  obtain ⟨y, c0⟩ : ∃ y : Value, w1.cell? ⟨w.heap.size, 0, none⟩ = some y := ⟨_, hz1.cell (i := 0) (by simp; omega)⟩
  have f0 := row_free hz1 0
  have HZ := Lib.hid (hz1.put 0 bt)
  have HK := Lib.hid hk1
  clear ho1 hg1 hk1 hz1
  go_wp2_with (with_reducible refine wpList_copy_text rfl _ _ rfl ((List.replicate s 0).set 0 bt) ⟨#[97, 117, 103, 117, 114, 32, 119, 97, 108, 32, 49]⟩ w.heap.size 1 (s - 1) (s - 1) rfl rfl ?c1 ?c2 ?c3 ?_)
  case c1 => exact HZ.out _ (by rw [HBT.out, L.ofNat_toNat]; congr 1; omega)
  case c2 => show 11 ≤ s - 1; omega
  case c3 => simp; omega
  intro w2 h2 hk2
  have H2 := Lib.hid h2
  have HK2 := Lib.hid hk2
  clear h2 hk2
  go_wp2_with fail
  go_ret
  exact ⟨w.heap.size, by rw [HL.out]; rfl, by rw [← HB.out]; exact H2.out, Nat.le_refl _, ((HK.out.setCell (by simp) _).trans HK2.out (fun i hi hl => by simp at hi; omega))⟩
end Go.Proofs.YtbanpdeganlndaaGreatDoor
namespace Go.Proofs.YtbanpdeganlndaaGreatDoor
open Go.RowKit
open Reg (Is Fact)

attribute [local go_sem] Reg.lateFr Reg.wantedV Reg.gives_value Reg.gives_skip Reg.gives_enter
/-- What a region leaves whose one operation 'last' writes. -/
def CW (last : Nat) (w1 : World) (Post : World → Prop) (L : Nat → Bool) (w : World) : Prop := (L last = false → Keeps [] w1 w) ∧ (L last = true → Post w)
theorem CW.lay {last i : Nat} {w1 w w' : World} {Post : World → Prop} {L : Nat → Bool} (hC : CW last w1 Post L w) (hi : i ≠ last) (hk : Keeps [] w w') (hP : ∀ a b, Post a → Keeps [] a b → Post b) : CW last w1 Post (Reg.lay L i) w' := by
  unfold CW
  rw [lay_ne hi]
  exact ⟨fun h => (hC.1 h).trans hk (by simp), fun h => hP _ _ (hC.2 h) hk⟩
theorem CW.done {last : Nat} {w1 w' : World} {Post : World → Prop} {L : Nat → Bool} (h : Post w') : CW last w1 Post (Reg.lay L last) w' :=
  ⟨fun e => (by rw [lay_eq] at e; cases e), fun _ => h⟩
theorem CW.start {last n : Nat} {w : World} {Post : World → Prop} (h : last < n) : CW last w Post (fun k => decide (n ≤ k)) w.drew :=
  ⟨fun _ => (Keeps.refl _ _).drew, fun e => by simp at e; omega⟩
/-- A row of cells in a block apart from S. -/
def NewRow (S : List Nat) (W : Nat) (t : TypeId) (cs : Array Value) : Fact := fun v w => ∃ x, v = .slice (some ⟨x, 0, none⟩) cs.size cs.size ∧ w.heap[x]? = some (.cells cs t (0, 0)) ∧ x ∉ S ∧ W ≤ x
theorem NewRow.keep {S : List Nat} {W : Nat} {t : TypeId} {cs : Array Value} : ∀ v w w', NewRow S W t cs v w → Keeps S w w' → NewRow S W t cs v w' := by
  rintro v w w' ⟨x, h1, h2, h3, h4⟩ hk
  exact ⟨x, h1, block_keep h2 hk h3, h3, h4⟩
theorem Is.keepS {S : List Nat} {u : Value} : ∀ v w w', Is u v w → Keeps S w w' → Is u v w' := fun _ _ _ h _ => h

/-- A buffer of T bytes: nine of its own, m, zeros. -/
def buf (T : Nat) (m : List UInt8) : List UInt8 := List.replicate 9 0 ++ m ++ List.replicate (T - 9 - m.length) 0
theorem buf_length {T : Nat} {m : List UInt8} (h : 9 + m.length ≤ T) : (buf T m).length = T := by simp [buf]; omega
theorem buf_nil {T : Nat} (h : 9 ≤ T) : List.replicate T 0 = buf T [] := by
  rw [buf, List.append_nil, List.replicate_append_replicate]; congr 1; simp; omega
theorem buf_over {T : Nat} {m x : List UInt8} (h : 9 + m.length + x.length ≤ T) : over (buf T m) (9 + m.length) x = buf T (m ++ x) := by
  unfold over buf
  have e1 : (List.replicate 9 (0 : UInt8) ++ m).length = 9 + m.length := by simp; omega
  rw [← e1, List.take_left, ← List.drop_drop, List.drop_left, List.drop_replicate]
  simp only [List.append_assoc, List.length_append]
  congr 4
  omega
theorem buf_done {T n c : Nat} {mark : UInt8} {m : List UInt8} : over (over ((buf T m).set 0 mark) 1 (L.le32 n)) 5 (L.le32 c) = mark :: (L.le32 n ++ (L.le32 c ++ m)) ++ List.replicate (T - 9 - m.length) 0 := by
  unfold buf over
  simp [L.le32, List.replicate_succ]
theorem buf_rows {T n : Nat} {mark : UInt8} {m : List UInt8} (h : 9 + m.length ≤ T) : ((over ((buf T m).set 0 mark) 1 (L.le32 n)).drop 1).take 4 = L.le32 n ∧ ((over ((buf T m).set 0 mark) 1 (L.le32 n)).drop 9).take m.length = m ∧ (over ((buf T m).set 0 mark) 1 (L.le32 n)).length = T := by
  refine ⟨?_, ?_, ?_⟩
  · unfold buf over; simp [L.le32, List.replicate_succ]
  · unfold buf over; simp [L.le32, List.replicate_succ, List.take_append]
  · rw [over_length (by simp [L.le32, buf_length h]; have := buf_length h; omega), List.length_set, buf_length h]
theorem crc_two {w : World} {x c1 c2 c g1 g2 : Nat} {A1 A2 : Option Addr} {l1 l2 : List UInt8} {n1 n2 : Nat} (ht : TabAt w) (hx : w.heap[x]? = some (.cells #[.slice A1 n1 c1, .slice A2 n2 c2] 62 (0, 0))) (e1 : n1 = l1.length) (e2 : n2 = l2.length) (h1 : BytesIn w g1 A1 l1) (h2 : BytesIn w g2 A2 l2) (m1 : l1.length ≤ maxLen) (m2 : l2.length ≤ maxLen) :
    Calls Tryz.prog 120 #[.slice (some ⟨x, 0, none⟩) 2 c] w fun e w' => e = .returned (.int .u32 ((M.crc [l1, l2] : Nat) : Int)) ∧ w = w' := by
  subst e1 e2
  refine crc_any (some ⟨x, 0, none⟩) [l1, l2] c w (by simp [maxLen]) (.inr ⟨x, 0, rfl, fun j hj => ?_⟩) ht
  match j, hj with
  | 0, _ => exact ⟨A1, c1, by rw [row_cell hx]; rfl, h1.at, m1⟩
  | 1, _ => exact ⟨A2, c2, by rw [row_cell hx]; rfl, h2.at, m2⟩

set_option maxRecDepth 100000 in
set_option maxHeartbeats 2000000 in
theorem frame_any (w : World) (G : Nat → Prop) (A : Option Addr) (ls : List (List UInt8)) (cap s : Nat) (mark : UInt8) (ht : TabAt w) (hr : RowsIn w G A ls) (hG : ∀ x, G x → x < w.heap.size) (hb : (L.body ls).length < 4294967296) (hs : 64 ≤ s ∧ s ≤ 4096) :
    Calls Tryz.prog 83 #[.int .u8 ((mark.toNat : Nat) : Int), .slice A ls.length cap, .int .i64 (s : Int)] w (MadeP (L.frame mark ls s) w) := by
  obtain ⟨iU, hU, hU0, hU1, hU2⟩ := info_parts infoU8
  have HSEC := Lib.hid (sectors_of w G A ls cap s hr (by omega) (by omega))
  have hbound := L.nsec_bound (rs := ls) (s := s) (by omega)
  have hcount := body_count ls
  obtain ⟨ns, hns⟩ : ∃ ns, ns = L.nsec ls s := ⟨_, rfl⟩
  obtain ⟨T, hT⟩ : ∃ T, T = (ns + 1) * s := ⟨_, rfl⟩
  have hT2 : T = ns * s + s := by rw [hT, Nat.add_mul]; omega
  rw [← hns] at HSEC hbound
  have hTs : 64 ≤ T ∧ T ≤ 4294975495 := by omega
  have hnsl : ns ≤ 4294971401 := by
    have : ns * 1 ≤ ns * s := Nat.mul_le_mul_left _ (by omega)
    omega
  have eT : ((ns : Int) + 1) * (s : Int) = (T : Int) := by rw [hT]; push_cast; rfl
  have HR := Lib.hid hr
  have HTAB := Lib.hid ht
  have HG := Lib.hid hG
  have HF := Lib.hid (show L.frame mark ls s = if ls = [] then List.replicate T 0 else L.core mark ls ++ List.replicate (T - (9 + (L.body ls).length)) 0 by
    unfold L.frame
    split
    · rename_i h0
      have e0 : ns = 0 := by rw [hns, h0]; exact L.nsec_nil s
      rw [hT, e0, Nat.zero_add, Nat.one_mul]
    · rw [hT, hns])
  have HROOM := Lib.hid (show ls ≠ [] → 9 + (L.body ls).length ≤ ns * s from fun h0 => by rw [hns]; exact L.nsec_room h0 (by omega))
  have HT2 := Lib.hid hT2
  clear hr ht hG hT hT2 hns hbound
  by_cases h0 : ls = []
  · have HE := Lib.hid (show L.frame mark ls s = List.replicate T 0 by rw [HF.out, if_pos h0])
    have HL := Lib.hid (show (L.frame mark ls s).length = T by rw [HE.out]; simp)
    have hz : ((ls.length : Int) == 0) = true := by rw [h0]; rfl
    clear h0
    go_enter Tryz.func83, Tryz.ntmps83
    go_wp2_with fail
    refine HSEC.out.mono ?_
    rintro e w' ⟨rfl, rfl⟩
    go_wp2_with (at_make; refine wpList_make_full _ rfl _ _ 62 rfl w.heap.size 5 iU (.int .u8 0) 1 Tryz.underlying62 hU hU0 hU1 .i64 .i64 (T : Int) (T : Int) T rfl rfl rfl rfl (by rw [hU2]; omega) (by unfold maxLen; omega) (Nat.le_refl _) ?_)
    intro w1 ho1 hg1
    have HK := Lib.hid ((Keeps.of_grown hg1).mono (T := []) (by simp))
    have HZ := Lib.hid (made_row ho1)
    clear ho1 hg1
    go_wp2_with fail
    go_ret
    exact ⟨w.heap.size, by rw [HL.out]; rfl, by rw [HE.out]; exact HZ.out, Nat.le_refl _, HK.out⟩
  · have hpos : 0 < ls.length := List.length_pos_iff.2 h0
    have hz : ((ls.length : Int) == 0) = false := by rw [beq_eq_false_iff_ne]; omega
    have hroom : 9 + (L.body ls).length + s ≤ T := by have := HROOM.out h0; have := HT2.out; omega
    have HE := Lib.hid (show L.frame mark ls s = L.core mark ls ++ List.replicate (T - 9 - (L.body ls).length) 0 by rw [HF.out, if_neg h0, Nat.sub_sub])
    have HL := Lib.hid (show (L.frame mark ls s).length = T by rw [HE.out, List.length_append, L.core_length, List.length_replicate]; omega)
    clear h0
    go_enter Tryz.func83, Tryz.ntmps83
    go_wp2_with fail
    refine HSEC.out.mono ?_
    rintro e w' ⟨rfl, rfl⟩
    go_wp2_with (at_make; refine wpList_make_full _ rfl _ _ 62 rfl w.heap.size 5 iU (.int .u8 0) 1 Tryz.underlying62 hU hU0 hU1 .i64 .i64 (T : Int) (T : Int) T rfl rfl rfl rfl (by rw [hU2]; omega) (by unfold maxLen; omega) (Nat.le_refl _) ?_)
    intro w1 ho1 hg1
    have HK := Lib.hid ((Keeps.of_grown hg1).mono (T := []) (by simp))
    have HZ := Lib.hid (show U8At w1 w.heap.size (buf T []) by rw [← buf_nil (by omega)]; exact made_row ho1)
    clear ho1 hg1 eT
    go_wp2_with fail
    go_loopw [8, 24] (fun av iv wr => ∃ k m : Nat, k ≤ ls.length ∧ iv = .int .i64 k ∧ av = .int .i64 (m : Int) ∧ m = 9 + (L.body (ls.take k)).length ∧ U8At wr w.heap.size (buf T (L.body (ls.take k))) ∧ Keeps [] w wr) (fun _ iv _ => ls.length - (RowKit.intOf iv).toNat)
    case atStart => exact ⟨0, 9, Nat.zero_le _, rfl, rfl, rfl, HZ.out, HK.out⟩
    case round =>
      obtain ⟨k, m, hk, rfl, rfl, hm, hu, hkp⟩ := hrel
      have hle := body_take_le ls k
      have HM := Lib.hid hm
      have HU := Lib.hid hu
      have HKP := Lib.hid hkp
      have hmle : m + s ≤ T ∧ 9 ≤ m := by omega
      by_cases hlt : k < ls.length
      · have HRw := Lib.hid (HR.out.keep0 hkp)
        rcases HRw.out with h0 | ⟨b, off, rfl, hGb, hc⟩
        · subst h0; simp at hpos
        · obtain ⟨v, hcv, A', g', cap', rfl, hbi, hcp, hcm, hor⟩ := hc k hlt
          have hl := body_le hlt
          have hbt := body_take hlt
          have hle2 := body_take_le ls (k + 1)
          have HBN := Lib.hid (show L.body (ls.take (k + 1)) = L.body (ls.take k) ++ L.le32 ls[k].length ++ ls[k] by
            rw [List.take_succ_eq_append_getElem hlt, L.body_append]; simp [L.body])
          obtain ⟨r, hr'⟩ : ∃ r, r = ls[k] := ⟨_, rfl⟩
          rw [← hr'] at hcv hl hbt HBN hbi hcp hor
          have hn2 : r.length < 4294967296 := by omega
          have hfit : m + 4 + r.length + s ≤ T := by omega
          have HB := Lib.hid hbi
          have HOR := Lib.hid (show r = [] ∨ g' ≠ w.heap.size from hor.imp id (fun h => by have := HG.out _ h; omega))
          have HBO1 := Lib.hid (show over (buf T (L.body (ls.take k))) m (L.le32 r.length) = buf T (L.body (ls.take k) ++ L.le32 r.length) by rw [HM.out]; exact buf_over (by rw [L.le32_length]; omega))
          have HBO2 := Lib.hid (show over (buf T (L.body (ls.take k) ++ L.le32 r.length)) (m + 4) r = buf T (L.body (ls.take (k + 1))) by
            rw [HM.out, HBN.out, show 9 + (L.body (ls.take k)).length + 4 = 9 + (L.body (ls.take k) ++ L.le32 r.length).length by rw [List.length_append, L.le32_length]; omega]
            exact buf_over (by rw [List.length_append, L.le32_length]; omega))
          have HLB := Lib.hid (show (buf T (L.body (ls.take k))).length = T from buf_length (by omega))
          have HLB2 := Lib.hid (show (buf T (L.body (ls.take k) ++ L.le32 r.length)).length = T from buf_length (by rw [List.length_append, L.le32_length]; omega))
          have HMN := Lib.hid (show m + 4 + r.length = 9 + (L.body (ls.take (k + 1))).length by omega)
          clear hc hr' hm hu hkp hle hl hbt hle2 hor hbi hGb
          have hmT : ¬ T = m := by omega
          have hmT2 : ¬ T = m + 4 := by omega
          go_wp2_with fail
          refine (putNumber_any wr w.heap.size m (T - m) (T - m) (buf T (L.body (ls.take k))) r.length HU.out (by rw [HLB.out]; omega) (by omega) hn2).mono ?_
          rintro e w2 ⟨rfl, hu2, hk2⟩
          have HU2 := Lib.hid (show U8At w2 w.heap.size (buf T (L.body (ls.take k) ++ L.le32 r.length)) by rw [← HBO1.out]; exact hu2)
          have HK2 := Lib.hid hk2
          clear hu2 hk2
          go_wp2_with (with_reducible refine wpList_copy_over rfl _ _ rfl (buf T (L.body (ls.take k) ++ L.le32 r.length)) r w.heap.size g' (m + 4) (T - (m + 4)) (T - (m + 4)) cap' A' rfl rfl HU2.out ?c1 ?c2 ?c3 ?_)
          case c1 =>
            rcases HOR.out with e | e
            · exact .inl e
            · exact HB.out.keep HK2.out (by simpa using e)
          case c2 => omega
          case c3 => rw [HLB2.out]; omega
          intro w3 hu3 hk3
          have HU3 := Lib.hid (show U8At w3 w.heap.size (buf T (L.body (ls.take (k + 1)))) by rw [← HBO2.out]; exact hu3)
          have HK3 := Lib.hid (show Keeps [] w w3 from ((HKP.out.mono (T := [w.heap.size]) (by simp)).trans (HK2.out.trans hk3 (fun _ h _ => h)) (fun _ h _ => h)).mono (fun i hi hl => by simp at hi; omega))
          clear hu3 hk3
          go_wp2_with fail
          go_roundw
          case rel => exact ⟨k + 1, m + 4 + r.length, by omega, by go_num, by go_num, HMN.out, HU3.out, HK3.out⟩
          case measure => simp [RowKit.intOf]; omega
      · have hke : ls.take k = ls := List.take_of_length_le (by omega)
        obtain ⟨bd, hbd⟩ : ∃ bd, bd = L.body ls := ⟨_, rfl⟩
        rw [hke, ← hbd] at hm hu
        rw [← hbd] at hb hroom HE
        have HKP9 := Lib.hid (hkp.mono (T := [w.heap.size]) (by simp))
        have HTW := Lib.hid (HTAB.out.keep hkp (by simp))
        obtain ⟨y, c0⟩ : ∃ y : Value, wr.cell? ⟨w.heap.size, 0, none⟩ = some y := ⟨_, hu.cell (i := 0) (by rw [buf_length (by omega)]; omega)⟩
        have f0 := row_free hu 0
        have HP := Lib.hid (hu.set 0 mark)
        have hgs := block_lt hu
        obtain ⟨q1, q2, q3⟩ := buf_rows (T := T) (n := bd.length) (mark := mark) (m := bd) (by omega)
        have HQ1 := Lib.hid q1
        have HQ2 := Lib.hid q2
        have HQ3 := Lib.hid q3
        have HD := Lib.hid (buf_done (T := T) (n := bd.length) (c := L.check bd) (mark := mark) (m := bd))
        have HCO := Lib.hid (show L.core mark ls = mark :: (L.le32 bd.length ++ (L.le32 (L.check bd) ++ bd)) by unfold L.core; rw [← hbd])
        have hcl : L.check bd < 4294967296 := M.crc_lt _
        have em : (m : Int) - 9 = (bd.length : Int) := by omega
        have hT1 : ¬ T = 1 := by omega
        have hT5 : ¬ T = 5 := by omega
        have hT9 : ¬ T = 9 := by omega
        have hm9 : 9 ≤ m := by omega
        have hmT : m ≤ T := by omega
        have HMB := Lib.hid (show m = 9 + bd.length from hm)
        have HSB := Lib.hid (show ((buf T bd).set 0 mark).length = T by rw [List.length_set]; exact buf_length (by omega))
        clear hke hm hu hkp hle hbd q1 q2 q3 HM HU hmle
        go_wp2_with fail
        refine (putNumber_any _ w.heap.size 1 (T - 1) (T - 1) ((buf T bd).set 0 mark) bd.length HP.out (by rw [HSB.out]; omega) (by omega) hb).mono ?_
        rintro e w2 ⟨rfl, hu2, hk2⟩
        have HU2 := Lib.hid hu2
        have HK2 := Lib.hid (show Keeps [w.heap.size] wr w2 from ((Keeps.refl _ _).setCell (by simp) _).trans hk2 (fun _ h _ => h))
        have HT2W := Lib.hid (HTW.out.keep HK2.out (by have := HTAB.out.pos; simp; omega))
        have hg2 := block_lt hu2
        clear hu2 hk2 c0 f0 em
        have HFR := Lib.hid (show over (over ((buf T bd).set 0 mark) 1 (L.le32 bd.length)) 5 (L.le32 (L.check bd)) = L.frame mark ls s by rw [HD.out, HE.out, HCO.out])
        have HBB1 := Lib.hid (show ∀ w', CW 9 w2 (fun w' => U8At w' w.heap.size (L.frame mark ls s) ∧ Keeps [w.heap.size] w2 w') (fun _ => false) w' ∨ U8At w' w.heap.size (L.frame mark ls s) → BytesIn w' w.heap.size (some ⟨w.heap.size, 1, none⟩) (L.le32 bd.length) ∧ BytesIn w' w.heap.size (some ⟨w.heap.size, 9, none⟩) bd from fun w' hk => by
          rcases hk with hk | hk
          · have hk0 := hk.1 rfl
            have t1 := HU2.out.part 1 4 (by rw [HQ3.out]; omega)
            rw [HQ1.out] at t1
            have t2 := HU2.out.part 9 bd.length (by rw [HQ3.out]; omega)
            rw [HQ2.out] at t2
            exact ⟨t1.keep hk0 (by simp), t2.keep hk0 (by simp)⟩
          · have t1 := hk.part 1 4 (by rw [HL.out]; omega)
            have t2 := hk.part 9 bd.length (by rw [HL.out]; omega)
            rw [← HFR.out, HD.out] at t1 t2
            refine ⟨?_, ?_⟩
            · have e : (((mark :: (L.le32 bd.length ++ (L.le32 (L.check bd) ++ bd)) ++ List.replicate (T - 9 - bd.length) 0)).drop 1).take 4 = L.le32 bd.length := by simp [L.le32]
              rw [e] at t1; exact t1
            · have e : (((mark :: (L.le32 bd.length ++ (L.le32 (L.check bd) ++ bd)) ++ List.replicate (T - 9 - bd.length) 0)).drop 9).take bd.length = bd := by simp [L.le32]
              rw [e] at t2; exact t2)
        have h5T : (5 : Int) ≤ (T : Int) := by omega
        have h9m : (9 : Int) ≤ (m : Int) := by omega
        have HKW := Lib.hid (show Keeps [w.heap.size] w w2 from HKP9.out.trans HK2.out (fun _ h _ => h))
        go_wp2_with fail
        refine Reg.wp_region_state (A := ?A) (CW 9 w2 (fun w' => U8At w' w.heap.size (L.frame mark ls s) ∧ Keeps [w.heap.size] w2 w')) (Keeps [w.heap.size])
          [Is (.slice (some ⟨w.heap.size, 0, none⟩) T T), Is (.slice (some ⟨w.heap.size, 5, none⟩) (T - 5) (T - 5)), Is (.slice (some ⟨w.heap.size, 0, none⟩) T T), Is (.slice (some ⟨w.heap.size, 1, none⟩) 4 (T - 1)),
           Is (.slice (some ⟨w.heap.size, 0, none⟩) T T), Is (.int .i64 (m : Int)), Is (.slice (some ⟨w.heap.size, 9, none⟩) (m - 9) (T - 9)), NewRow [w.heap.size] w2.heap.size 62 #[.slice (some ⟨w.heap.size, 1, none⟩) 4 (T - 1), .slice (some ⟨w.heap.size, 9, none⟩) (m - 9) (T - 9)],
           Is (.int .u32 ((L.check bd : Nat) : Int)), Is (.tuple #[])]
          (by kernel_rfl) (by kernel_rfl) rfl ?hA ?hC ?ho ?hlast ?hend
        case hA => intro vs; simp only [Reg.fill, if_true, Nat.zero_add, Nat.reduceAdd, Act.put, List.setIfInBounds_toArray, List.set_cons_succ, List.set_cons_zero]; exact rfl
        case hC => exact CW.start (by decide)
        case hlast => repeat (first | exact trivial | refine ⟨Is.keepS, ?_⟩ | refine ⟨NewRow.keep, ?_⟩)
        case ho =>
          repeat' apply And.intro
          all_goals
            first
              | exact trivial
              | (intro Ls vs w' hC hL hd K hK
                 try simp only [Reg.Deps, Reg.at_, List.getD_cons_zero, List.getD_cons_succ, Region.binds, true_implies, Is, and_true] at hd
                 go_simp
                 first
                   | exact hK _ _ (hC.lay (by decide) (Keeps.refl _ _) (fun a b hp hk => ⟨hp.1.keep hk (by simp), hp.2.trans hk (by simp)⟩)) (Keeps.refl _ _) rfl
                   | skip)
          · have hks : Keeps [w.heap.size] w2 w' := by
              cases e9 : Ls 9 with
              | false => exact (hC.1 e9).mono (by simp)
              | true => exact (hC.2 e9).2
            exact hK _ _ (hC.lay (by decide) ((Keeps.refl _ _).alloc _) (fun a b hp hk => ⟨hp.1.keep hk (by simp), hp.2.trans hk (by simp)⟩)) ((Keeps.refl _ _).alloc _) ⟨w'.heap.size, rfl, heap_alloc_new _ _, by have := hks.size; simp; omega, hks.size⟩
          · obtain ⟨x, hx, hxb, _⟩ := hd
            rw [hx]
            have hks : Keeps [w.heap.size] w2 w' := by
              cases e9 : Ls 9 with
              | false => exact (hC.1 e9).mono (by simp)
              | true => exact (hC.2 e9).2
            obtain ⟨b1, b2⟩ := HBB1.out w' (by
              cases e9 : Ls 9 with
              | false => exact .inl ⟨fun _ => hC.1 e9, fun e => by cases e⟩
              | true => exact .inr (hC.2 e9).1)
            refine (crc_two (HT2W.out.keep hks (by have := HTAB.out.pos; simp; omega)) hxb rfl (by rw [HMB.out]; omega) b1 b2 (by rw [L.le32_length]; unfold maxLen; omega) (by unfold maxLen; omega)).mono ?_
            rintro e w'' ⟨rfl, rfl⟩
            exact ⟨_, rfl, hK _ _ (hC.lay (by decide) (Keeps.refl _ _) (fun a b hp hk => ⟨hp.1.keep hk (by simp), hp.2.trans hk (by simp)⟩)) (Keeps.refl _ _) rfl⟩
          · have hk0 := hC.1 hL
            refine (putNumber_any w' w.heap.size 5 (T - 5) (T - 5) _ (L.check bd) (HU2.out.keep hk0 (by simp)) (by rw [HQ3.out]; omega) (by omega) hcl).mono ?_
            rintro e w'' ⟨rfl, hu3, hk3⟩
            rw [HFR.out] at hu3
            exact ⟨_, rfl, hK _ _ (CW.done ⟨hu3, (hk0.mono (by simp)).trans hk3 (fun _ h _ => h)⟩) hk3 rfl⟩
        case hend =>
          intro vs w3 hC hall
          obtain ⟨r1, r2⟩ := hC.2 rfl
          have HR1 := Lib.hid r1
          have HR2 := Lib.hid (show Keeps [] w w3 from (HKW.out.trans r2 (fun _ h _ => h)).mono (fun i hi hl => by simp at hi; omega))
          clear hC hall r1 r2
          go_wp2_with fail
          go_ret
          exact ⟨w.heap.size, by rw [HL.out]; rfl, HR1.out, Nat.le_refl _, HR2.out⟩
end Go.Proofs.YtbanpdeganlndaaGreatDoor
namespace Go.Proofs.YtbanpdeganlndaaGreatDoor
open Go.RowKit
open Reg (Is Fact)

attribute [local go_sem] Reg.lateFr Reg.wantedV Reg.gives_value Reg.gives_skip Reg.gives_enter
/-- The disk became d'; of what was there only its own blocks may have turned. -/
def DskGo (w : World) (h : DH) (B : Nat → Prop) (w' : World) (d' : Dk) : Prop := Keeps h.l w w' ∧ ∃ B', DskAt w' h B' d' ∧ (∀ x, B x → B' x) ∧ (∀ x, B' x → B x ∨ w.heap.size ≤ x)
theorem DskGo.same {w w' : World} {h : DH} {B : Nat → Prop} {d : Dk} (x : DskAt w' h B d) (hk : Keeps h.l w w') : DskGo w h B w' d := ⟨hk, B, x, fun _ h => h, fun _ h => .inl h⟩
theorem DskGo.later {w w1 w2 : World} {h : DH} {B B1 : Nat → Prop} {d2 : Dk} (hk : Keeps h.l w w1) (h1 : ∀ x, B x → B1 x) (h2 : ∀ x, B1 x → B x ∨ w.heap.size ≤ x) (y : DskGo w1 h B1 w2 d2) : DskGo w h B w2 d2 := by
  obtain ⟨k, B2, z, z1, z2⟩ := y
  refine ⟨hk.trans k (fun _ h _ => h), B2, z, fun x hx => z1 x (h1 x hx), fun x hx => ?_⟩
  rcases z2 x hx with e | e
  · exact h2 x e
  · right; have := hk.size; omega
theorem DskGo.then0 {w w1 w2 : World} {h : DH} {B : Nat → Prop} {d : Dk} (y : DskGo w h B w1 d) (hk : Keeps [] w1 w2) : DskGo w h B w2 d := by
  obtain ⟨k, B2, z, z1, z2⟩ := y
  exact ⟨k.trans hk (by simp), B2, z.keep0 hk, z1, z2⟩
theorem DskGo.first0 {w w1 w2 : World} {h : DH} {B : Nat → Prop} {d : Dk} (hk : Keeps [] w w1) (y : DskGo w1 h B w2 d) : DskGo w h B w2 d :=
  DskGo.later (hk.mono (by simp)) (fun _ h => h) (fun _ h => .inl h) y
def PerformP (w : World) (h : DH) (B : Nat → Prop) (p : Nat × Dk) (e : Ending) (w' : World) : Prop := e = .returned (.int .i64 (p.1 : Int)) ∧ DskGo w h B w' p.2
theorem wr_size {d : Dk} (hok : d.Ok) {a : Nat} {b : List UInt8} : ∀ i, (L.wr d a b i).2.Ok ∧ (L.wr d a b i).2.size = d.size
  | 0 => ⟨hok, rfl⟩
  | i + 1 => by
    have ih := wr_size hok (a := a) (b := b) i
    rw [L.wr]
    split
    · exact ih
    · refine ⟨Dk.ok_write ih.1 _ _, ?_⟩
      obtain ⟨s1, _⟩ := Dk.drawn_same (L.wr d a b i).2
      show (Dk.write _ _ _).size = _
      unfold Dk.write
      repeat' split
      all_goals first | exact ih.2 | exact s1.trans ih.2
set_option maxRecDepth 100000 in
set_option maxHeartbeats 2000000 in
theorem perform_any (w : World) (h : DH) (B : Nat → Prop) (d : Dk) (lp : Nat) (g : Lg) (x : DskAt w h B d) (y : LogAt w lp h.p g) (at_ gb cap : Nat) (A : Option Addr) (b : List UInt8) (hat : at_ ≤ 65536) (hb : BytesIn w gb A b) (hbl : b.length ≤ 17179869184) (hcap : b.length ≤ cap) (hcm : cap ≤ maxLen) (hgb : gb ∉ h.l) :
    Calls Tryz.prog 122 #[.pointer (some ⟨lp, 0, none⟩), .agg #[.int .i64 (at_ : Int), .slice A b.length cap]] w (PerformP w h B (L.perform d at_ b)) := by
  obtain ⟨c0, _⟩ := y.cells
  have hsz := x.ok.size
  have hlt := x.lt
  have hll := y.lt
  have hne := y.ne x
  have hcm' := hcm
  unfold maxLen at hcm'
  obtain ⟨w0, hw0⟩ : ∃ w0, w0 = w.alloc (.cells #[.int .i64 (at_ : Int), .slice A b.length cap] 147) := ⟨_, rfl⟩
  have hbox : w0.heap[w.heap.size]? = some (.cells #[.int .i64 (at_ : Int), .slice A b.length cap] 147 (0, 0)) := by rw [hw0]; exact heap_alloc_new w _
  have hk0 : Keeps [] w w0 := by rw [hw0]; exact (Keeps.refl _ _).alloc _
  have hws : w.heap.size < w0.heap.size := block_lt hbox
  have HX := Lib.hid (x.keep0 hk0)
  have HXY := Lib.hid x
  have HB := Lib.hid hb
  have HBOX := Lib.hid hbox
  have HK0 := Lib.hid hk0
  have d0 := hk0.cell_some c0 (by simp)
  have e0 : w0.cell? ⟨w.heap.size, 0, none⟩ = some (.int .i64 (at_ : Int)) := row_cell hbox 0
  have e1 : w0.cell? ⟨w.heap.size, 1, none⟩ = some (.slice A b.length cap) := row_cell hbox 1
  have HW := Lib.hid (wr_size x.ok (a := at_) (b := b))
  obtain ⟨k, hkk⟩ : ∃ k, k = b.length / d.size := ⟨_, rfl⟩
  have hkb : k * d.size ≤ b.length := by rw [hkk]; exact Nat.div_mul_le_self _ _
  have ek : (b.length : Int) / (d.size : Int) = (k : Int) := by rw [hkk]; rfl
  have HKK := Lib.hid hkk
  have HGB := Lib.hid hgb
  have HNE := Lib.hid hne
  have hkl : k ≤ 17179869184 := by
    have : k * 1 ≤ k * d.size := Nat.mul_le_mul_left _ (by omega)
    omega
  clear x y hb hbox hk0 hkk hgb hne c0
  subst hw0
  go_enter Tryz.func122, Tryz.ntmps122
  go_wp2_with fail
  refine (size_any _ h B d HX.out).mono ?_
  rintro e w' ⟨rfl, rfl⟩
  go_wp2_with fail
  go_loopw [20] (fun iv wr => ∃ i : Nat, i ≤ k ∧ iv = .int .i64 i ∧ (L.wr d at_ b i).1 = 0 ∧ DskGo (w.alloc (.cells #[.int .i64 (at_ : Int), .slice A b.length cap] 147)) h B wr (L.wr d at_ b i).2) (fun iv _ => k - (RowKit.intOf iv).toNat)
  case atStart => exact ⟨0, Nat.zero_le _, rfl, rfl, DskGo.same HX.out (Keeps.refl _ _)⟩
  case round =>
    obtain ⟨i, hi, rfl, hw0, hgo⟩ := hrel
    have HGO := Lib.hid hgo
    obtain ⟨hkq, B1, x1, hb1, hb2⟩ := hgo
    have hn2 : w.heap.size ∉ h.l := by have := hlt; simp [DH.l]; omega
    have m0 := hkq.cell_some d0 HNE.out.2.2.2
    have n0 := hkq.cell_some e0 hn2
    have n1 := hkq.cell_some e1 hn2
    obtain ⟨D, hD⟩ : ∃ D, D = (L.wr d at_ b i).2 := ⟨_, rfl⟩
    have hDs := (HW.out i).2
    rw [← hD] at x1 hDs
    have HX1 := Lib.hid x1
    have HD := Lib.hid hD
    have HW0 := Lib.hid hw0
    have HNL := Lib.hid hn2
    have HB1 := Lib.hid hb1
    have HB2 := Lib.hid hb2
    have HKQ := Lib.hid hkq
    clear x1 hD hw0 hn2 hb1 hb2 hkq d0 e0 e1
    by_cases hik : i < k
    · have hb0 := HB.out
      obtain ⟨lo, hlo⟩ : ∃ lo, lo = i * d.size := ⟨_, rfl⟩
      obtain ⟨hi2, hhi⟩ : ∃ hi2, hi2 = (i + 1) * d.size := ⟨_, rfl⟩
      have h1 : hi2 = lo + d.size := by rw [hhi, hlo, Nat.add_mul]; omega
      have h2 : hi2 ≤ k * d.size := by rw [hhi]; exact Nat.mul_le_mul_right _ hik
      have HCH := Lib.hid (show (b.drop lo).take d.size = L.chunk b d.size i by rw [hlo]; rfl)
      have HCL := Lib.hid (show (L.chunk b d.size i).length = d.size from L.chunk_length (by rw [← hhi]; omega))
      have el : IntKind.i64.wrap ((i : Int) * (d.size : Int)) = (lo : Int) := by
        have : (i : Int) * (d.size : Int) = (lo : Int) := by rw [hlo]; push_cast; rfl
        rw [this]; exact IntWalk.i64_in _ ⟨by omega, by omega⟩
      have eh : IntKind.i64.wrap (((i : Int) + 1) * (d.size : Int)) = (hi2 : Int) := by
        have : ((i : Int) + 1) * (d.size : Int) = (hi2 : Int) := by rw [hhi]; push_cast; rfl
        rw [this]; exact IntWalk.i64_in _ ⟨by omega, by omega⟩
      have ei : IntKind.i64.wrap ((i : Int) + 1) = (i : Int) + 1 := IntWalk.i64_in _ ⟨by omega, by omega⟩
      have ea : IntKind.i64.wrap ((at_ : Int) + (i : Int)) = ((at_ + i : Nat) : Int) := by
        rw [show ((at_ + i : Nat) : Int) = (at_ : Int) + (i : Int) by push_cast; rfl]; exact IntWalk.i64_in _ ⟨by omega, by omega⟩
      rcases hb0 with hb0 | ⟨off, rfl, hcell⟩
      · subst hb0; simp at hkb; omega
      · have HCK := Lib.hid (show ∀ w', Keeps h.l wr w' → BytesIn w' gb (some ⟨gb, off + lo, none⟩) (L.chunk b d.size i) from fun w' hk => by
          have hb9 : BytesIn w' gb (some ⟨gb, off, none⟩) b := (HB.out.keep (((HK0.out.mono (T := h.l) (by simp)).trans HKQ.out (fun _ h _ => h)).trans hk (fun _ h _ => h)) HGB.out)
          have := (hb9.drop (cap := cap) lo (by omega)).take d.size
          rw [if_neg (by omega), HCH.out] at this
          simpa [Addr.add_lit] using this)
        have hlen : hi2 - lo = d.size := by omega
        have hcl : ¬ cap = lo := by omega
        have c5 : (lo : Int) ≤ (hi2 : Int) := by omega
        have c6 : (hi2 : Int) ≤ (cap : Int) := by omega
        have HIF := Lib.hid h1
        have HI2 := Lib.hid h2
        obtain ⟨er, her⟩ : ∃ er, er = D.writeErr ((at_ + i : Nat) : Int) (L.chunk b d.size i) := ⟨_, rfl⟩
        have HER := Lib.hid her
        clear hcell hlo hhi h1 her
        go_wp2_with fail
        refine Reg.wp_region_state (A := ?A) (CW 18 wr (fun w' => DskGo wr h B1 w' (D.write ((at_ + i : Nat) : Int) (L.chunk b d.size i)))) (Keeps h.l)
          [Is (.pointer (some ⟨lp, 0, none⟩)), Is (.pointer (some ⟨lp, 0, none⟩)), Is (.pointer (some ⟨lp, 0, none⟩)), Is (.pointer (some ⟨h.p, 0, none⟩)), Is (.pointer (some ⟨w.heap.size, 0, none⟩)), Is (.int .i64 (at_ : Int)), Is (.int .i64 (i : Int)), Is (.int .i64 ((at_ + i : Nat) : Int)),
           Is (.pointer (some ⟨w.heap.size, 1, none⟩)), Is (.slice (some ⟨gb, off, none⟩) b.length cap), Is (.int .i64 (i : Int)), Is (.int .i64 (d.size : Int)), Is (.int .i64 (lo : Int)), Is (.int .i64 (i : Int)), Is (.int .i64 ((i : Int) + 1)), Is (.int .i64 (d.size : Int)), Is (.int .i64 (hi2 : Int)),
           Is (.slice (some ⟨gb, off + lo, none⟩) d.size (cap - lo)), Is (.int .i64 (er : Int)), Is (.int .i64 (er : Int))]
          (by kernel_rfl) (by kernel_rfl) rfl ?hA ?hC ?ho ?hlast ?hend
        case hA => intro vs; simp only [Reg.fill, if_true, Nat.zero_add, Nat.reduceAdd, Act.put, List.setIfInBounds_toArray, List.set_cons_succ, List.set_cons_zero]; exact rfl
        case hC => exact CW.start (by decide)
        case hlast => repeat (first | exact trivial | refine ⟨Is.keepS, ?_⟩)
        case ho =>
          repeat' apply And.intro
          all_goals
            first
              | exact trivial
              | (intro Ls vs w' hC hL hd K hK
                 try simp only [Reg.Deps, Reg.at_, List.getD_cons_zero, List.getD_cons_succ, Region.binds, true_implies, Is, and_true] at hd
                 have hkw : Keeps h.l wr w' := by
                   cases e9 : Ls 18 with
                   | false => exact (hC.1 e9).mono (by simp)
                   | true => exact (hC.2 e9).1
                 have q0 := hkw.cell_some m0 HNE.out.2.2.2
                 have q1 := hkw.cell_some n0 HNL.out
                 have q2 := hkw.cell_some n1 HNL.out
                 go_simp
                 first
                   | exact hK _ _ (hC.lay (by decide) (Keeps.refl _ _) (fun a b hp hk => hp.then0 hk)) (Keeps.refl _ _) rfl
                   | skip)
          · have hk0 := hC.1 hL
            have hbk := HCK.out w' (hk0.mono (by simp))
            have hw := write_any w' h B1 D (HX1.out.keep0 hk0) ((at_ + i : Nat) : Int) (some ⟨gb, off + lo, none⟩) gb (cap - lo) (L.chunk b d.size i) hbk (by rw [HCL.out]; omega)
            rw [HCL.out] at hw
            refine hw.mono ?_
            rintro e w'' ⟨rfl, hk2, B2, x2, p1, p2⟩
            refine ⟨_, rfl, hK _ _ (CW.done (DskGo.first0 hk0 ⟨hk2, B2, x2, p1, p2⟩)) hk2 ?_⟩
            rw [HER.out]
            rfl
        case hend =>
          intro vs w3 hC hall
          have hgo3 := hC.2 rfl
          have HGO3 := Lib.hid (show DskGo (w.alloc (.cells #[.int .i64 (at_ : Int), .slice (some ⟨gb, off, none⟩) b.length cap] 147)) h B w3 (L.wr d at_ b (i + 1)).2 by
            rw [L.wr_next HW0.out]
            simp only []
            rw [← HD.out]
            exact DskGo.later HKQ.out HB1.out HB2.out hgo3)
          have HN1 := Lib.hid (show (L.wr d at_ b (i + 1)).1 = er by rw [L.wr_next HW0.out]; simp only []; rw [← HD.out, HER.out])
          have hv19 : vs 19 = .int .i64 (er : Int) := by
            simp only [Reg.All, Is, and_true, Nat.zero_add, Nat.reduceAdd] at hall
            simp only [hall]
          clear hC hall hgo3
          by_cases h0 : er = 0
          · have hz : ((er : Int) != 0) = false := by rw [h0]; rfl
            have HZ := Lib.hid h0
            clear h0
            go_wp2_with fail
            go_roundw
            case rel => exact ⟨i + 1, by omega, by go_num, by rw [HN1.out, HZ.out], HGO3.out⟩
            case measure => simp [RowKit.intOf]; omega
          · have hz : ((er : Int) != 0) = true := by rw [bne_iff_ne]; omega
            have HP := Lib.hid (show L.perform d at_ b = L.wr d at_ b (i + 1) from L.perform_stuck (by rw [HN1.out]; exact h0) (by rw [← HKK.out]; omega))
            clear h0
            go_wp2_with fail
            go_ret
            refine ⟨?_, DskGo.first0 HK0.out (by rw [HP.out]; exact HGO3.out)⟩
            rw [HP.out, HN1.out]
            exact congrArg Ending.returned hv19
    · have hike : i = k := by omega
      have HP := Lib.hid (show L.perform d at_ b = (D.flushErr, D.flush) by rw [L.perform_full (by rw [← HKK.out, ← hike]; exact HW0.out), ← HKK.out, ← hike, ← HD.out])
      clear hike
      go_wp2_with fail
      refine (flush_any wr h B1 D HX1.out).mono ?_
      rintro e w2 ⟨rfl, x2, hk2⟩
      have HGO2 := Lib.hid (show DskGo w h B w2 D.flush from DskGo.first0 HK0.out (DskGo.later HKQ.out HB1.out HB2.out (DskGo.same x2 hk2)))
      clear x2 hk2
      go_wp2_with fail
      go_ret
      refine ⟨?_, by rw [HP.out]; exact HGO2.out⟩
      rw [HP.out]; rfl
end Go.Proofs.YtbanpdeganlndaaGreatDoor
namespace Go.Proofs.YtbanpdeganlndaaGreatDoor
open Go.RowKit
open Reg (Is Fact)

attribute [local go_sem] Reg.lateFr Reg.wantedV Reg.gives_value Reg.gives_skip Reg.gives_enter
/-- Bytes in a new block. -/
def NewU (W : Nat) (l : List UInt8) : Fact := fun v w => ∃ x, v = .slice (some ⟨x, 0, none⟩) l.length l.length ∧ U8At w x l ∧ W ≤ x
def NewStep (W : Nat) (t : Nat × List UInt8) : Fact := fun v w => ∃ x, v = .agg #[.int .i64 (t.1 : Int), .slice (some ⟨x, 0, none⟩) t.2.length t.2.length] ∧ U8At w x t.2 ∧ W ≤ x
theorem NewU.keep0 {W : Nat} {l : List UInt8} : ∀ v w w', NewU W l v w → Keeps [] w w' → NewU W l v w' := by
  rintro v w w' ⟨x, h1, h2, h3⟩ hk
  exact ⟨x, h1, h2.keep hk (by simp), h3⟩
theorem NewStep.keep0 {W : Nat} {t : Nat × List UInt8} : ∀ v w w', NewStep W t v w → Keeps [] w w' → NewStep W t v w' := by
  rintro v w w' ⟨x, h1, h2, h3⟩ hk
  exact ⟨x, h1, h2.keep hk (by simp), h3⟩
/-- A row of two steps, all new. -/
def NewSteps (W : Nat) (s t : Nat × List UInt8) : Fact := fun v w => ∃ b x y, v = .slice (some ⟨b, 0, none⟩) 2 2 ∧ W ≤ b ∧ W ≤ x ∧ W ≤ y ∧ b < w.heap.size ∧ U8At w x s.2 ∧ U8At w y t.2 ∧
  w.heap[b]? = some (.cells #[.int .i64 (s.1 : Int), .slice (some ⟨x, 0, none⟩) s.2.length s.2.length, .int .i64 (t.1 : Int), .slice (some ⟨y, 0, none⟩) t.2.length t.2.length] 147 (0, 0))
theorem NewSteps.keep0 {W : Nat} {s t : Nat × List UInt8} : ∀ v w w', NewSteps W s t v w → Keeps [] w w' → NewSteps W s t v w' := by
  rintro v w w' ⟨b, x, y, h1, h2, h3, h4, h5, h6, h7, h8⟩ hk
  exact ⟨b, x, y, h1, h2, h3, h4, Nat.lt_of_lt_of_le h5 hk.size, h6.keep hk (by simp), h7.keep hk (by simp), block_keep h8 hk (by simp)⟩
theorem Is.keep0 {u : Value} : ∀ v w w', Is u v w → Keeps [] w w' → Is u v w' := fun _ _ _ h _ => h
theorem run_zeros (w : World) (s : Nat) (hs : s ≤ 4096) : ∃ w', (Instr.makeSlice 62 (.int .i64 (s : Int)) (.int .i64 (s : Int))).run Tryz.prog w = .ok (.slice (some ⟨w.heap.size, 0, none⟩) s s) w' ∧ U8At w' w.heap.size (List.replicate s 0) ∧ Keeps [] w w' := by
  obtain ⟨iU, hU, hU0, hU1, hU2⟩ := info_parts infoU8
  obtain ⟨w', hrun, r1, r2⟩ := run_make_full (P := Tryz.prog) w w.heap.size 62 5 iU (.int .u8 0) 1 Tryz.underlying62 hU hU0 hU1 .i64 .i64 s (by rw [hU2]; omega) (by unfold maxLen; omega) (Nat.le_refl _)
  exact ⟨w', hrun, made_row (by rw [Nat.mul_one] at r1; exact r1), (Keeps.of_grown r2).mono (by simp)⟩
def SettleStepsP (w : World) (s t : Nat × List UInt8) (e : Ending) (w' : World) : Prop := ∃ v, e = .returned v ∧ NewSteps w.heap.size s t v w' ∧ Keeps [] w w'
set_option maxRecDepth 100000 in
set_option maxHeartbeats 2000000 in
theorem settlement_any (w : World) (h : DH) (B : Nat → Prop) (d : Dk) (lp : Nat) (g : Lg) (x : DskAt w h B d) (y : LogAt w lp h.p g) (ha : g.area ≤ 1) (hu : g.used ≤ 4096) :
    Calls Tryz.prog 121 #[.pointer (some ⟨lp, 0, none⟩)] w (SettleStepsP w (L.st d.dur.length g.area + g.used, List.replicate d.size 0) (0, L.hd g.area d.size)) := by
  obtain ⟨c0, c1, c2, _⟩ := y.cells
  have hsz := x.ok.size
  have HX := Lib.hid x
  have HY := Lib.hid y
  have HHL := Lib.hid (L.hd_length (a := g.area) (s := d.size) (by omega))
  have HENDS := Lib.hid (fun w' (hk : Keeps [] w w') => (end_any w' h B d lp g (x.keep0 hk) (y.keep hk (by simp)) ha hu).mono fun _ _ hq => hq.keeps)
  obtain ⟨en, hen⟩ : ∃ en, en = L.st d.dur.length g.area + g.used := ⟨_, rfl⟩
  rw [← hen] at HENDS ⊢
  obtain ⟨a, hae⟩ : ∃ a, a = g.area := ⟨_, rfl⟩
  rw [← hae] at c1 ha HHL ⊢
  clear x y hen hae
  go_enter Tryz.func121, Tryz.ntmps121
  go_wp2_with fail
  refine (size_any w h B d HX.out).mono ?_
  rintro e w' ⟨rfl, rfl⟩
  go_wp2_with fail
  refine Reg.wp_region_state (A := ?A) (fun _ w' => Keeps [] w w') (Keeps [])
    [Is (.pointer (some ⟨lp, 0, none⟩)), Is (.int .i64 (en : Int)), Is (.int .i64 (d.size : Int)), NewU w.heap.size (List.replicate d.size 0), NewStep w.heap.size (en, List.replicate d.size 0), Is (.pointer (some ⟨lp, 0, none⟩)), Is (.pointer (some ⟨lp, 0, none⟩)), Is (.pointer (some ⟨lp, 1, none⟩)), Is (.pointer (some ⟨lp, 1, none⟩)), Is (.int .i64 (a : Int)), Is (.int .i64 (d.size : Int)),
     NewU w.heap.size (L.hd a d.size), NewStep w.heap.size (0, L.hd a d.size), NewSteps w.heap.size (en, List.replicate d.size 0) (0, L.hd a d.size), NewSteps w.heap.size (en, List.replicate d.size 0) (0, L.hd a d.size)]
    (by kernel_rfl) (by kernel_rfl) rfl ?hA ?hC ?ho ?hlast ?hend
  case hA => intro vs; simp only [Reg.fill, if_true, Nat.zero_add, Nat.reduceAdd, Act.put, List.setIfInBounds_toArray, List.set_cons_succ, List.set_cons_zero]; exact rfl
  case hC => exact (Keeps.refl _ _).drew
  case hlast => repeat (first | exact trivial | refine ⟨Is.keep0, ?_⟩ | refine ⟨NewU.keep0, ?_⟩ | refine ⟨NewStep.keep0, ?_⟩ | refine ⟨NewSteps.keep0, ?_⟩)
  case ho =>
    repeat' apply And.intro
    all_goals
      first
        | exact trivial
        | (intro Ls vs w' hC hL hd K hK
           try simp only [Reg.Deps, Reg.at_, List.getD_cons_zero, List.getD_cons_succ, Region.binds, true_implies, Is, and_true] at hd
           have q0 := hC.cell_some c0 (by simp)
           have q1 := hC.cell_some c1 (by simp)
           go_simp
           first
             | exact hK _ _ hC (Keeps.refl _ _) rfl
             | skip)
    · refine (HENDS.out w' hC).mono ?_
      rintro e w'' ⟨rfl, hk⟩
      exact ⟨_, rfl, hK _ _ (hC.trans hk (by simp)) hk rfl⟩
    · obtain ⟨w2, hr, hu2, hk⟩ := run_zeros w' d.size (by omega)
      rw [hr]
      simp only [Result.andThen, Reg.gives_value]
      exact hK _ _ (hC.trans hk (by simp)) hk ⟨_, by rw [List.length_replicate], hu2, hC.size⟩
    · obtain ⟨hd1, x, hx, hxu, hxw⟩ := hd
      rw [hx]
      go_simp
      exact hK _ _ hC (Keeps.refl _ _) ⟨x, by simp only [List.length_replicate], hxu, hxw⟩
    · refine (head_any w' a d.size ha (by omega)).mono ?_
      rintro e w'' ⟨x, rfl, hxu, hxw, hk⟩
      exact ⟨_, rfl, hK _ _ (hC.trans hk (by simp)) hk ⟨x, rfl, hxu, Nat.le_trans hC.size hxw⟩⟩
    · obtain ⟨x, hx, hxu, hxw⟩ := hd
      rw [hx]
      go_simp
      exact hK _ _ hC (Keeps.refl _ _) ⟨x, rfl, hxu, hxw⟩
    · obtain ⟨⟨x, hx, hxu, hxw⟩, x', hx', hxu', hxw'⟩ := hd
      rw [hx, hx']
      go_simp
      exact hK _ _ (hC.alloc _) ((Keeps.refl _ _).alloc _) ⟨w'.heap.size, x, x', rfl, hC.size, hxw, hxw', by simp, hxu.keep ((Keeps.refl [] _).alloc _) (by simp), hxu'.keep ((Keeps.refl [] _).alloc _) (by simp), by simp only [List.length_replicate]; exact heap_alloc_new _ _⟩
    · exact hK _ _ hC (Keeps.refl _ _) hd.1
  case hend =>
    intro vs w3 hC hall
    have h14 : NewSteps w.heap.size (en, List.replicate d.size 0) (0, L.hd a d.size) (vs 14) w3 := by
      have := hall.2.2.2.2.2.2.2.2.2.2.2.2.2.2.1
      exact this
    have H14 := Lib.hid h14
    have HC := Lib.hid hC
    clear hall hC h14
    go_wp2_with fail
    go_ret
    exact ⟨_, rfl, H14.out, HC.out⟩
end Go.Proofs.YtbanpdeganlndaaGreatDoor
namespace Go.Proofs.YtbanpdeganlndaaGreatDoor
open Go.RowKit

def StepCells (w : World) (G : Nat → Prop) (xs : List Value) (l : List (Nat × List UInt8)) : Prop :=
  xs.length = 2 * l.length ∧ ∀ j (hj : j < l.length), xs[2 * j]? = some (.int .i64 (l[j].1 : Int)) ∧ ∃ v, xs[2 * j + 1]? = some v ∧ ElV w G v l[j].2
theorem StepCells.keep {S : List Nat} {w w' : World} {G G' : Nat → Prop} {xs : List Value} {l : List (Nat × List UInt8)} (h : StepCells w G xs l) (hk : Keeps S w w') (hS : ∀ x ∈ S, ¬ G x) (hG : ∀ x, G x → G' x) : StepCells w' G' xs l :=
  ⟨h.1, fun j hj => by
    obtain ⟨h1, v, h2, h3⟩ := h.2 j hj
    exact ⟨h1, v, h2, h3.keep hk hS hG⟩⟩
theorem StepCells.append {w : World} {G : Nat → Prop} {xs ys : List Value} {l m : List (Nat × List UInt8)} (h : StepCells w G xs l) (k : StepCells w G ys m) : StepCells w G (xs ++ ys) (l ++ m) := by
  refine ⟨by rw [List.length_append, List.length_append, h.1, k.1]; omega, fun j hj => ?_⟩
  have hx := h.1
  by_cases hl : j < l.length
  · obtain ⟨h1, v, h2, h3⟩ := h.2 j hl
    refine ⟨?_, v, ?_, ?_⟩
    · rw [List.getElem?_append_left (by omega), List.getElem_append_left hl]; exact h1
    · rw [List.getElem?_append_left (by omega)]; exact h2
    · rw [List.getElem_append_left hl]; exact h3
  · have hj' : j - l.length < m.length := by rw [List.length_append] at hj; omega
    obtain ⟨h1, v, h2, h3⟩ := k.2 (j - l.length) hj'
    refine ⟨?_, v, ?_, ?_⟩
    · rw [List.getElem?_append_right (by omega), List.getElem_append_right (by omega), show 2 * j - xs.length = 2 * (j - l.length) by omega]; exact h1
    · rw [List.getElem?_append_right (by omega), show 2 * j + 1 - xs.length = 2 * (j - l.length) + 1 by omega]; exact h2
    · rw [List.getElem_append_right (by omega)]; exact h3
theorem StepCells.one {w : World} {G : Nat → Prop} {xs : List Value} {l : List (Nat × List UInt8)} (h : StepCells w G xs l) : ∀ u ∈ xs, u.oneCell' = true := by
  intro u hu
  obtain ⟨i, hi, rfl⟩ := List.getElem_of_mem hu
  have hl := h.1
  obtain ⟨h1, v, h2, h3⟩ := h.2 (i / 2) (by omega)
  rcases Nat.mod_two_eq_zero_or_one i with e | e
  · rw [show 2 * (i / 2) = i by omega, List.getElem?_eq_getElem hi] at h1
    rw [Option.some.inj h1]; rfl
  · rw [show 2 * (i / 2) + 1 = i by omega, List.getElem?_eq_getElem hi] at h2
    rw [Option.some.inj h2]; exact h3.one
def StepsIn (w : World) (G : Nat → Prop) (A : Option Addr) (l : List (Nat × List UInt8)) : Prop :=
  (A = none ∧ l = []) ∨ ∃ b off xs, A = some ⟨b, off, none⟩ ∧ G b ∧ (∀ j u, xs[j]? = some u → w.cell? ⟨b, off + j, none⟩ = some u) ∧ StepCells w G xs l
theorem StepsIn.keep {S : List Nat} {w w' : World} {G G' : Nat → Prop} {A : Option Addr} {l : List (Nat × List UInt8)} (h : StepsIn w G A l) (hk : Keeps S w w') (hS : ∀ x ∈ S, ¬ G x) (hG : ∀ x, G x → G' x) : StepsIn w' G' A l := by
  rcases h with h | ⟨b, off, xs, h1, h2, h3, h4⟩
  · exact .inl h
  · exact .inr ⟨b, off, xs, h1, hG b h2, fun j u hu => hk.cell_some (h3 j u hu) (fun hm => hS b hm h2), h4.keep hk hS hG⟩
theorem StepsIn.at {w : World} {G : Nat → Prop} {A : Option Addr} {l : List (Nat × List UInt8)} (h : StepsIn w G A l) {k : Nat} (hk : k < l.length) : ∃ b off v, A = some ⟨b, off, none⟩ ∧ G b ∧ w.cell? ⟨b, off + k * 2, none⟩ = some (.int .i64 (l[k].1 : Int)) ∧ w.cell? ⟨b, off + k * 2 + 1, none⟩ = some v ∧ ElV w G v l[k].2 := by
  rcases h with ⟨_, rfl⟩ | ⟨b, off, xs, h1, h2, h3, h4⟩
  · simp at hk
  · obtain ⟨q1, v, q2, q3⟩ := h4.2 k hk
    have e1 := h3 _ _ q1
    have e2 := h3 _ _ q2
    rw [Nat.mul_comm] at e1
    rw [Nat.mul_comm, ← Nat.add_assoc] at e2
    exact ⟨b, off, v, h1, h2, e1, e2, q3⟩
theorem NewSteps.cells {W : Nat} {s t : Nat × List UInt8} {v : Value} {w : World} (h : NewSteps W s t v w) (hs : s.2.length ≤ maxLen) (ht : t.2.length ≤ maxLen) : ∃ xs b, v = .slice (some ⟨b, 0, none⟩) 2 2 ∧ W ≤ b ∧ b < w.heap.size ∧ StepCells w (fun x => W ≤ x ∧ x ≠ b) xs [s, t] ∧ w.ownsRow W 147 2 v 2 xs := by
  obtain ⟨b, x, y, hv, h1, h2, h3, h4, h5, h6, h7⟩ := h
  have hx : x ≠ b := by
    rintro rfl
    unfold U8At at h5
    rw [h5] at h7
    injection h7 with h8
    injection h8 with _ h9
    exact absurd h9 (by decide)
  have hy : y ≠ b := by
    rintro rfl
    unfold U8At at h6
    rw [h6] at h7
    injection h7 with h8
    injection h8 with _ h9
    exact absurd h9 (by decide)
  refine ⟨[.int .i64 (s.1 : Int), .slice (some ⟨x, 0, none⟩) s.2.length s.2.length, .int .i64 (t.1 : Int), .slice (some ⟨y, 0, none⟩) t.2.length t.2.length], b, hv, h1, h4, ⟨rfl, fun j hj => ?_⟩, ⟨rfl, .inr ⟨b, 2, _, hv, h1, h7, by omega, by unfold maxLen; omega, rfl, rfl⟩⟩⟩
  match j, hj with
  | 0, _ => exact ⟨rfl, _, rfl, some ⟨x, 0, none⟩, x, _, rfl, h5.bytes, Nat.le_refl _, hs, .inr ⟨h2, hx⟩⟩
  | 1, _ => exact ⟨rfl, _, rfl, some ⟨y, 0, none⟩, y, _, rfl, h6.bytes, Nat.le_refl _, ht, .inr ⟨h3, hy⟩⟩
theorem infoStep : (Tryz.prog.info? 147).map (fun i => (i.zero, i.size, i.bytes)) = some (some (.agg #[.int .i64 0, .slice none 0 0]), 2, 32) := by kernel_rfl
section
variable {P : Program} (w : World)
/-- append of what came in, onto a row of one's own. -/
theorem run_append_in (base : Nat) (t ty e : TypeId) (i : TypeInfo) (z : Value) (size bytes : Nat) (ht : P.underlying t = some (.slice e)) (hi : P.info? e = some i) (hz : i.zero = some z)
    (hsize : i.size = size) (hby : i.bytes = bytes) (hzs : z.cells.size = size) (hsz : 0 < size)
    (v : Value) (n : Nat) (xs : List Value) (hown : w.ownsRow base e size v n xs)
    (A : Option Addr) (m c : Nat) (news : List Value) (hl : news.length = m * size) (hA : A = none → m = 0) (hnews : ∀ ad, A = some ad → ∀ j u, news[j]? = some u → w.cell? (ad.add j) = some u) (h1 : ∀ u ∈ news, u.oneCell' = true)
    (h63 : n + m ≤ maxLen) (hbytes : (n + m) * bytes ≤ 140737488355328) (hbase : base ≤ w.heap.size) :
    ∃ v' w', (Builtin.append_ #[t, t] ty #[v, .slice A m c]).run P w = .ok v' w' ∧ w'.ownsRow base e size v' (n + m) (xs ++ news) ∧ w.grownBy w' v.ownBlock ∧ (v'.ownBlock = v.ownBlock ∨ v'.ownBlock = some w.heap.size) := by
  cases A with
  | some ad =>
    obtain ⟨v', w', h2, h3, h4, _, h5⟩ := run_append_own_at (P := P) w base t ty e i z size bytes ht hi hz hsize hby hzs hsz v n xs hown ad m c news hl (hnews ad rfl) h1 h63 hbytes hbase
    exact ⟨v', w', h2, h3, h4, h5⟩
  | none =>
    obtain rfl := hA rfl
    obtain rfl : news = [] := List.eq_nil_of_length_eq_zero (by simpa using hl)
    refine ⟨v, w, ?_, by simpa using hown, ⟨rfl, rfl, rfl, Nat.le_refl _, fun _ _ _ => rfl⟩, .inl rfl⟩
    rcases hown.2 with ⟨rfl, rfl⟩ | ⟨g, cap, cur, rfl, _, _, hnc, _⟩
    · simp [Builtin.append_, run_underlying ht, sizeOf, typeInfo, hi, Builtin.lenOf, Builtin.firstCells]
    · simp [Builtin.append_, run_underlying ht, sizeOf, typeInfo, hi, Builtin.lenOf, Builtin.firstCells, hnc, storeCells]
theorem wpList_append_in {ops : Array Oper} {rest : List Oper} {o : Oper} {a : Act} {Q : Exit → Act → World → Prop} (hgd : o.guard = none) (s x : Operand) (t : TypeId)
    (ho : o.op = .call { callee := .builtin .append, args := #[s, x], argTypes := #[t, t] })
    (base : Nat) (e : TypeId) (i : TypeInfo) (z : Value) (size bytes : Nat) (ht : P.underlying t = some (.slice e)) (hi : P.info? e = some i) (hz : i.zero = some z)
    (hsize : i.size = size) (hby : i.bytes = bytes) (hzs : z.cells.size = size) (hsz : 0 < size)
    (v : Value) (n : Nat) (xs : List Value) (hs : a.eval s = v) (hown : w.ownsRow base e size v n xs)
    (A : Option Addr) (m c : Nat) (news : List Value) (hx : a.eval x = .slice A m c) (hl : news.length = m * size) (hA : A = none → m = 0) (hnews : ∀ ad, A = some ad → ∀ j u, news[j]? = some u → w.cell? (ad.add j) = some u) (h1 : ∀ u ∈ news, u.oneCell' = true)
    (h63 : n + m ≤ maxLen) (hbytes : (n + m) * bytes ≤ 140737488355328) (hbase : base ≤ w.heap.size)
    (h : ∀ v' w', w'.ownsRow base e size v' (n + m) (xs ++ news) → w.grownBy w' v.ownBlock → (v'.ownBlock = v.ownBlock ∨ v'.ownBlock = some w.heap.size) → wpList P ops Q rest (a.put o.dst v') w') : wpList P ops Q (o :: rest) a w := by
  obtain ⟨v', w', hr, h2, h3, h4⟩ := run_append_in (P := P) w base t o.type e i z size bytes ht hi hz hsize hby hzs hsz v n xs hown A m c news hl hA hnews h1 h63 hbytes hbase
  refine wpList_plain hgd fun K hK => ?_
  unfold Oper.wp execOp
  simp only [ho, resolve, invoke, builtin, Sem.run_bind, Sem.run_pure, Result.andThen_ok, List.map_toArray, List.map_cons, List.map_nil, hs, hx, hr]
  exact hK _ _ (h v' w' h2 h3 h4)
end
theorem runSteps_append : ∀ (l m : List (Nat × List UInt8)) (d : Dk), L.runSteps d (l ++ m) = if (L.runSteps d l).1 ≠ 0 then L.runSteps d l else L.runSteps (L.runSteps d l).2 m
  | [], m, d => by rw [if_neg (by simp [L.runSteps])]; rfl
  | t :: l, m, d => by
    rw [List.cons_append, L.runSteps, L.runSteps]
    by_cases h : (L.perform d t.1 t.2).1 ≠ 0
    · rw [if_pos h, if_pos h, if_pos h]
    · rw [if_neg h, if_neg h, runSteps_append l m]
theorem runSteps_next {d : Dk} {l : List (Nat × List UInt8)} {k : Nat} (hk : k < l.length) (h0 : (L.runSteps d (l.take k)).1 = 0) : L.runSteps d (l.take (k + 1)) = L.perform (L.runSteps d (l.take k)).2 l[k].1 l[k].2 := by
  rw [List.take_succ_eq_append_getElem hk, runSteps_append, if_neg (by rw [h0]; simp)]
  simp only [L.runSteps]
  by_cases h : (L.perform (L.runSteps d (l.take k)).2 l[k].1 l[k].2).1 ≠ 0
  · rw [if_pos h]
  · rw [if_neg h]
    have : (L.perform (L.runSteps d (l.take k)).2 l[k].1 l[k].2).1 = 0 := by simpa using h
    rw [← this]
theorem runSteps_stuck {d : Dk} {l : List (Nat × List UInt8)} {k : Nat} (h : (L.runSteps d (l.take k)).1 ≠ 0) : L.runSteps d l = L.runSteps d (l.take k) := by
  conv => lhs; rw [← List.take_append_drop k l]
  rw [runSteps_append, if_pos h]
end Go.Proofs.YtbanpdeganlndaaGreatDoor
namespace Go.Proofs.YtbanpdeganlndaaGreatDoor
open Go.RowKit

/-- What change makes of disk and log. -/
def chg (d : Dk) (g next : Lg) (l : List (Nat × List UInt8)) : Nat × Dk × Lg :=
  ((L.runSteps d (if g.settled then l else L.settleSteps d.dur.length d.size g.area g.used ++ l)).1, (L.runSteps d (if g.settled then l else L.settleSteps d.dur.length d.size g.area g.used ++ l)).2,
   if (L.runSteps d (if g.settled then l else L.settleSteps d.dur.length d.size g.area g.used ++ l)).1 = 0 then { next with settled := true } else { g with settled := false })
theorem chg_of {d : Dk} {g next : Lg} {l l0 : List (Nat × List UInt8)} (h : (if g.settled then l else L.settleSteps d.dur.length d.size g.area g.used ++ l) = l0) : chg d g next l = ((L.runSteps d l0).1, (L.runSteps d l0).2, if (L.runSteps d l0).1 = 0 then { next with settled := true } else { g with settled := false }) := by
  unfold chg; rw [h]
def ChangeP (w : World) (h : DH) (B : Nat → Prop) (lp : Nat) (r : Nat × Dk × Lg) (e : Ending) (w' : World) : Prop :=
  e = .returned (.int .i64 (r.1 : Int)) ∧ Keeps (lp :: h.l) w w' ∧ LogAt w' lp h.p r.2.2 ∧ ∃ B', DskAt w' h B' r.2.1 ∧ (∀ x, B x → B' x) ∧ (∀ x, B' x → B x ∨ w.heap.size ≤ x)
theorem changeP_of {w w0 w' : World} {h : DH} {B : Nat → Prop} {lp : Nat} {r : Nat × Dk × Lg} {n : Nat} {d' : Dk} {g' : Lg} (hr : r = (n, d', g')) (hk : Keeps [lp] w w0) (hgo : DskGo w0 h B w' d') (hlog : LogAt w' lp h.p g') : ChangeP w h B lp r (.returned (.int .i64 (n : Int))) w' := by
  subst hr
  obtain ⟨k, B', x, h1, h2⟩ := hgo
  exact ⟨rfl, (hk.mono (T := lp :: h.l) (by simp)).trans k (fun i hi _ => by simp [hi]), hlog, B', x, h1, fun y hy => (h2 y hy).imp id (fun e => by have := hk.size; omega)⟩
theorem changeP_end {w w0 w1 w' : World} {h : DH} {B : Nat → Prop} {lp : Nat} {r : Nat × Dk × Lg} {d' : Dk} {g g' : Lg} (hr : r = (0, d', g')) (hk : Keeps [lp] w w0) (hgo : DskGo w0 h B w1 d') (hlog : LogAt w1 lp h.p g) (hn : lp ∉ h.l ∧ ∀ x, B x → x ≠ lp) (hl0 : lp < w0.heap.size)
    (he : w' = (((w1.setCell ⟨lp, 1, none⟩ (.int .i64 (g'.area : Int))).setCell ⟨lp, 2, none⟩ (.int .i64 (g'.used : Int))).setCell ⟨lp, 3, none⟩ (.int .i64 (g'.count : Int))).setCell ⟨lp, 4, none⟩ (.bool g'.settled)) : ChangeP w h B lp r (.returned (.int .i64 (0 : Int))) w' := by
  have hk2 : Keeps [lp] w1 w' := by rw [he]; exact ((((Keeps.refl _ _).setCell (by simp) _).setCell (by simp) _).setCell (by simp) _).setCell (by simp) _
  have hlog2 : LogAt w' lp h.p g' := by
    unfold LogAt
    rw [he, row_set (row_set (row_set (row_set hlog 1 _) 2 _) 3 _) 4 _]
    rfl
  obtain ⟨k, B', x, h1, h2⟩ := hgo
  have hB' : ∀ y ∈ [lp], y ∉ h.l ∧ ¬ B' y := by
    intro y hy
    obtain rfl : y = lp := by simpa using hy
    refine ⟨hn.1, fun hb => ?_⟩
    rcases h2 _ hb with e | e
    · exact hn.2 _ e rfl
    · omega
  subst hr
  exact ⟨rfl, ((hk.mono (T := lp :: h.l) (by simp)).trans k (fun i hi _ => by simp [hi])).trans hk2 (by simp), hlog2, B', x.keep hk2 hB', h1, fun y hy => (h2 y hy).imp id (fun e => by have := hk.size; omega)⟩
set_option maxRecDepth 100000 in
set_option maxHeartbeats 2000000 in
theorem change_settled (w : World) (h : DH) (B : Nat → Prop) (d : Dk) (lp : Nat) (g next : Lg) (G : Nat → Prop) (A : Option Addr) (cap : Nat) (l : List (Nat × List UInt8)) (x : DskAt w h B d) (y : LogAt w lp h.p g) (hlB : ¬ B lp)
    (hs : StepsIn w G A l) (hG : ∀ x, G x → x ∉ h.l ∧ x ≠ lp ∧ x < w.heap.size) (hst : ∀ t ∈ l, t.1 ≤ 65536 ∧ t.2.length ≤ 17179869184) (hl : l.length ≤ 100) (ha : g.area ≤ 1) (hu : g.used ≤ 4096) (hset : g.settled = true) :
    Calls Tryz.prog 85 #[.pointer (some ⟨lp, 0, none⟩), .agg #[.int .i64 (next.area : Int), .int .i64 (next.used : Int), .int .i64 (next.count : Int)], .slice A l.length cap] w (ChangeP w h B lp (chg d g next l)) := by
  obtain ⟨iS, hS, hS0, hS1, hS2⟩ := info_parts infoStep
  obtain ⟨_, _, _, _, c4⟩ := y.cells
  rw [hset] at c4
  have f4 := y.free 4
  have hlt := x.lt
  have hll := y.lt
  have hne := y.ne x
  have hsz := x.ok.size
  have hsecs := x.ok.secs
  have HNE := Lib.hid hne
  have HLB := Lib.hid hlB
  have HST := Lib.hid hst
  have HSET := Lib.hid hset
  obtain ⟨bx, hbx⟩ : ∃ bx, bx = w.heap.size := ⟨_, rfl⟩
  have hka : Keeps [] w (w.alloc (.cells #[.int .i64 (next.area : Int), .int .i64 (next.used : Int), .int .i64 (next.count : Int)] 98)) := (Keeps.refl _ _).alloc _
  have HKA := Lib.hid hka
  have HXA := Lib.hid (x.keep0 hka)
  have HYA := Lib.hid (y.keep hka (by simp))
  have HSA := Lib.hid (hs.keep hka (by simp) (G' := G) (fun _ h => h))
  have HGA := Lib.hid hG
  have hboxa := heap_alloc_new w (.cells #[.int .i64 (next.area : Int), .int .i64 (next.used : Int), .int .i64 (next.count : Int)] 98)
  rw [← hbx] at hboxa
  have HBXA := Lib.hid hboxa
  have c4a := hka.cell_some c4 (by simp)
  have f4a := (HYA.out).free 4
  have HBX := Lib.hid hbx
  have hbxl : bx ∉ h.l ∧ bx ≠ lp := by simp [DH.l]; omega
  have HBXL := Lib.hid hbxl
  have HX9 := Lib.hid x
  have HY9 := Lib.hid y
  have HS9 := Lib.hid hs
  clear x y hs hG hst hset hne hlB c4 f4 hka hboxa hbxl
  go_enter Tryz.func85, Tryz.ntmps85
  have HCH := Lib.hid (chg_of (d := d) (g := g) (next := next) (l := l) (l0 := l) (by rw [HSET.out]; rfl))
  have HG0 := Lib.hid (show ∀ x, G x → x ∉ h.l ∧ x ≠ lp from fun x hx => ⟨(HGA.out x hx).1, (HGA.out x hx).2.1⟩)
  obtain ⟨w0, hw0⟩ : ∃ w0, w0 = (w.setCell ⟨lp, 4, none⟩ (.bool false)).alloc (.cells #[.int .i64 (next.area : Int), .int .i64 (next.used : Int), .int .i64 (next.count : Int)] 98) := ⟨_, rfl⟩
  have hk0 : Keeps [lp] w w0 := by rw [hw0]; exact ((Keeps.refl _ _).setCell (by simp) _).alloc _
  have HS0 := Lib.hid (HS9.out.keep hk0 (fun y hy hGy => by simp at hy; exact (HG0.out _ hGy).2 hy) (G' := G) (fun _ h => h))
  have HX0 := Lib.hid (show DskAt w0 h B d from HX9.out.keep hk0 (fun z hz => ⟨by simp at hz; rw [hz]; exact HNE.out.2.2.2, by simp at hz; rw [hz]; exact HLB.out⟩))
  have HY0 := Lib.hid (show LogAt w0 lp h.p { g with settled := false } by
    have h1 : LogAt (w.setCell ⟨lp, 4, none⟩ (.bool false)) lp h.p { g with settled := false } := by unfold LogAt; rw [row_set HY9.out 4 _]; rfl
    rw [hw0]; exact h1.keep ((Keeps.refl [] _).alloc _) (by simp))
  have HBX0 := Lib.hid (show w0.heap[bx]? = some (.cells #[.int .i64 (next.area : Int), .int .i64 (next.used : Int), .int .i64 (next.count : Int)] 98 (0, 0)) by
    have h1 := heap_alloc_new (w.setCell ⟨lp, 4, none⟩ (.bool false)) (.cells #[.int .i64 (next.area : Int), .int .i64 (next.used : Int), .int .i64 (next.count : Int)] 98)
    rw [hw0, HBX.out]
    simpa [World.setCell] using h1)
  have HKW := Lib.hid hk0
  clear hk0
  subst hw0
  go_wp2_with fail
  go_loopw [24] (fun iv wr => ∃ k : Nat, k ≤ l.length ∧ iv = .int .i64 k ∧ (L.runSteps d (l.take k)).1 = 0 ∧ DskGo ((w.setCell ⟨lp, 4, none⟩ (.bool false)).alloc (.cells #[.int .i64 (next.area : Int), .int .i64 (next.used : Int), .int .i64 (next.count : Int)] 98)) h B wr (L.runSteps d (l.take k)).2) (fun iv _ => l.length - (RowKit.intOf iv).toNat)
  case atStart => exact ⟨0, Nat.zero_le _, rfl, rfl, DskGo.same HX0.out (Keeps.refl _ _)⟩
  case round =>
    obtain ⟨k, hk, rfl, h0, hgo⟩ := hrel
    have HGO := Lib.hid hgo
    obtain ⟨hkq, B1, x1, hb1, hb2⟩ := hgo
    have hlg := HY0.out.keep hkq HNE.out.2.2.2
    have hbr := block_keep HBX0.out hkq HBXL.out.1
    have HLG := Lib.hid hlg
    obtain ⟨D, hD⟩ : ∃ D, D = (L.runSteps d (l.take k)).2 := ⟨_, rfl⟩
    rw [← hD] at x1
    have HX1 := Lib.hid x1
    have HD := Lib.hid hD
    have H0 := Lib.hid h0
    have HB1 := Lib.hid hb1
    have HB2 := Lib.hid hb2
    have HKQ := Lib.hid hkq
    have g1 := hlg.free 1
    have g2 := hlg.free 2
    have g3 := hlg.free 3
    have g4 := hlg.free 4
    obtain ⟨l0, l1, l2, l3, l4⟩ := hlg.cells
    have n0 : wr.cell? ⟨bx, 0, none⟩ = some (.int .i64 (next.area : Int)) := row_cell hbr 0
    have n1 : wr.cell? ⟨bx, 1, none⟩ = some (.int .i64 (next.used : Int)) := row_cell hbr 1
    have n2 : wr.cell? ⟨bx, 2, none⟩ = some (.int .i64 (next.count : Int)) := row_cell hbr 2
    rw [HBX.out] at n0 n1 n2
    clear x1 hD h0 hb1 hb2 hkq hlg hbr
    by_cases hlk : k < l.length
    · obtain ⟨b, off, v, hAe, hGb, q1, q2, A', g', cap', rfl, hbi, hcp, hcm, hor⟩ := HS0.out.at hlk
      subst hAe
      have hst := HST.out _ (List.getElem_mem hlk)
      have HNX := Lib.hid (runSteps_next (d := d) hlk H0.out)
      have hnb := (HG0.out b hGb).1
      have p1 := HKQ.out.cell_some q1 hnb
      have p2 := HKQ.out.cell_some q2 hnb
      obtain ⟨⟨at_, bs⟩, ht⟩ : ∃ t, t = l[k] := ⟨_, rfl⟩
      rw [← ht] at p1 p2 hst HNX hbi hcp hor
      have HBI := Lib.hid (show ∃ g9, g9 ∉ h.l ∧ BytesIn wr g9 A' bs by
        rcases hor with h9 | h9
        · exact ⟨bx, HBXL.out.1, .inl h9⟩
        · exact ⟨g', (HG0.out g' h9).1, hbi.keep HKQ.out (HG0.out g' h9).1⟩)
      obtain ⟨hat, hbs⟩ := hst
      simp only [] at hat hbs p1 p2 hcp
      clear q1 q2 hGb hor hbi ht hnb
      obtain ⟨g9, hg9, hbi9⟩ := HBI.out
      have hal : Keeps [] wr (wr.alloc (.cells #[.int .i64 (at_ : Int), .slice A' bs.length cap'] 147)) := (Keeps.refl _ _).alloc _
      have HPF := Lib.hid (perform_any _ h B1 D lp { g with settled := false } (HX1.out.keep0 hal) (HLG.out.keep hal (by simp)) at_ g9 cap' A' bs hat (hbi9.keep hal (by simp)) hbs hcp hcm hg9)
      have HAL := Lib.hid hal
      rw [← HD.out] at HNX
      obtain ⟨er, her⟩ : ∃ er, er = (L.perform D at_ bs).1 := ⟨_, rfl⟩
      have HER := Lib.hid her
      clear hal hbi9 hg9 her
      go_wp2_with fail
      refine HPF.out.mono ?_
      rintro e w9 ⟨rfl, hgo2⟩
      rw [← HER.out]
      have HLG2 := Lib.hid (show LogAt w9 lp h.p { g with settled := false } from (HLG.out.keep HAL.out (by simp)).keep hgo2.1 HNE.out.2.2.2)
      have HGO2 := Lib.hid (show DskGo ((w.setCell ⟨lp, 4, none⟩ (.bool false)).alloc (.cells #[.int .i64 (next.area : Int), .int .i64 (next.used : Int), .int .i64 (next.count : Int)] 98)) h B w9 (L.runSteps d (l.take (k + 1))).2 by
        rw [HNX.out]
        exact DskGo.later HKQ.out HB1.out HB2.out (DskGo.first0 HAL.out hgo2))
      have HN1 := Lib.hid (show (L.runSteps d (l.take (k + 1))).1 = er by rw [HNX.out, HER.out])
      clear hgo2
      by_cases h0 : er = 0
      · have hz : ((er : Int) != 0) = false := by rw [h0]; rfl
        have HZ := Lib.hid h0
        clear h0
        go_wp2_with fail
        go_roundw
        case rel => exact ⟨k + 1, by omega, by go_num, by rw [HN1.out, HZ.out], HGO2.out⟩
        case measure => simp [RowKit.intOf]; omega
      · have hz : ((er : Int) != 0) = true := by rw [bne_iff_ne]; omega
        have HSTK := Lib.hid (runSteps_stuck (d := d) (l := l) (k := k + 1) (by rw [HN1.out]; exact h0))
        have HZ := Lib.hid h0
        clear h0
        go_wp2_with fail
        go_ret
        refine changeP_of (n := er) (g' := { g with settled := false }) ?_ HKW.out HGO2.out HLG2.out
        rw [HCH.out, HSTK.out, HN1.out, if_neg HZ.out]
    · have hke : l.take k = l := List.take_of_length_le (by omega)
      have HR := Lib.hid (show chg d g next l = (0, D, { next with settled := true }) by
        have h0 := H0.out
        rw [hke] at h0
        rw [HCH.out, h0, if_pos rfl, HD.out, hke])
      have HGE := Lib.hid (show DskGo ((w.setCell ⟨lp, 4, none⟩ (.bool false)).alloc (.cells #[.int .i64 (next.area : Int), .int .i64 (next.used : Int), .int .i64 (next.count : Int)] 98)) h B wr D by rw [HD.out]; exact HGO.out)
      have HKE := Lib.hid hke
      clear hke
      go_wp2_with fail
      go_ret
      refine changeP_end (g := { g with settled := false }) (g' := { next with settled := true }) HR.out HKW.out HGE.out HLG.out ⟨HNE.out.2.2.2, fun z hz => by rintro rfl; exact HLB.out hz⟩ HY0.out.lt ?_
      rfl
set_option maxRecDepth 100000 in
set_option maxHeartbeats 2000000 in
theorem change_unsettled (w : World) (h : DH) (B : Nat → Prop) (d : Dk) (lp : Nat) (g next : Lg) (G : Nat → Prop) (A : Option Addr) (cap : Nat) (l : List (Nat × List UInt8)) (x : DskAt w h B d) (y : LogAt w lp h.p g) (hlB : ¬ B lp)
    (hs : StepsIn w G A l) (hG : ∀ x, G x → x ∉ h.l ∧ x ≠ lp ∧ x < w.heap.size) (hst : ∀ t ∈ l, t.1 ≤ 65536 ∧ t.2.length ≤ 17179869184) (hl : l.length ≤ 100) (ha : g.area ≤ 1) (hu : g.used ≤ 4096) (hset : g.settled = false) :
    Calls Tryz.prog 85 #[.pointer (some ⟨lp, 0, none⟩), .agg #[.int .i64 (next.area : Int), .int .i64 (next.used : Int), .int .i64 (next.count : Int)], .slice A l.length cap] w (ChangeP w h B lp (chg d g next l)) := by
  obtain ⟨iS, hS, hS0, hS1, hS2⟩ := info_parts infoStep
  obtain ⟨_, _, _, _, c4⟩ := y.cells
  rw [hset] at c4
  have f4 := y.free 4
  have hlt := x.lt
  have hll := y.lt
  have hne := y.ne x
  have hsz := x.ok.size
  have hsecs := x.ok.secs
  have HNE := Lib.hid hne
  have HLB := Lib.hid hlB
  have HST := Lib.hid hst
  have HSET := Lib.hid hset
  obtain ⟨bx, hbx⟩ : ∃ bx, bx = w.heap.size := ⟨_, rfl⟩
  have hka : Keeps [] w (w.alloc (.cells #[.int .i64 (next.area : Int), .int .i64 (next.used : Int), .int .i64 (next.count : Int)] 98)) := (Keeps.refl _ _).alloc _
  have HKA := Lib.hid hka
  have HXA := Lib.hid (x.keep0 hka)
  have HYA := Lib.hid (y.keep hka (by simp))
  have HSA := Lib.hid (hs.keep hka (by simp) (G' := G) (fun _ h => h))
  have HGA := Lib.hid hG
  have hboxa := heap_alloc_new w (.cells #[.int .i64 (next.area : Int), .int .i64 (next.used : Int), .int .i64 (next.count : Int)] 98)
  rw [← hbx] at hboxa
  have HBXA := Lib.hid hboxa
  have c4a := hka.cell_some c4 (by simp)
  have f4a := (HYA.out).free 4
  have HBX := Lib.hid hbx
  have hbxl : bx ∉ h.l ∧ bx ≠ lp := by simp [DH.l]; omega
  have HBXL := Lib.hid hbxl
  have HX9 := Lib.hid x
  have HY9 := Lib.hid y
  have HS9 := Lib.hid hs
  clear x y hs hG hst hset hne hlB c4 f4 hka hboxa hbxl
  go_enter Tryz.func85, Tryz.ntmps85
  have HCH := Lib.hid (chg_of (d := d) (g := g) (next := next) (l := l) (l0 := L.settleSteps d.dur.length d.size g.area g.used ++ l) (by rw [HSET.out]; rfl))
  go_wp2_with fail
  refine (settlement_any _ h B d lp g HXA.out HYA.out ha hu).mono ?_
  rintro e w1 ⟨v1, rfl, hns, hk1⟩
  obtain ⟨xs, b1, rfl, hb1, hb1', hxs, hown⟩ := hns.cells (by simp only [List.length_replicate]; unfold maxLen; omega) (by have h9 : (L.hd g.area d.size).length = d.size := L.hd_length (by omega); show (L.hd g.area d.size).length ≤ _; rw [h9]; unfold maxLen; omega)
  have hbase : bx < w1.heap.size ∧ bx + 1 ≤ b1 := by have := hk1.size; simp at this hb1; omega
  have HXS := Lib.hid hxs
  have HXO := Lib.hid hxs.one
  have HOWN := Lib.hid hown
  have HK1 := Lib.hid hk1
  have hn9 := hk1.size
  have c4b := hk1.cell_some c4a (by simp)
  have HS1 := Lib.hid (HSA.out.keep hk1 (by simp) (G' := G) (fun _ h => h))
  clear hxs hown hns hk1
  obtain ⟨ys, hys, hyc, hA0, hyw⟩ : ∃ ys : List Value, ys.length = l.length * 2 ∧ StepCells w1 G ys l ∧ (A = none → l.length = 0) ∧ ∀ ad, A = some ad → ∀ j u, ys[j]? = some u → w1.cell? (ad.add j) = some u := by
    rcases HS1.out with ⟨hA, hl0⟩ | ⟨b, off, ys, hA, _, hc, hcs⟩
    · exact ⟨[], by rw [hl0]; rfl, ⟨by rw [hl0]; rfl, fun j hj => by rw [hl0] at hj; simp at hj⟩, fun _ => by rw [hl0]; rfl, fun ad e => by rw [hA] at e; cases e⟩
    · refine ⟨ys, by rw [hcs.1]; omega, hcs, fun e => (by rw [hA] at e; cases e), fun ad e j u hu => ?_⟩
      rw [hA] at e
      obtain rfl := Option.some.inj e
      rw [Addr.add_lit]
      exact hc j u hu
  have HYS := Lib.hid hys
  have HYC := Lib.hid hyc
  have HA0 := Lib.hid hA0
  have HYW := Lib.hid hyw
  clear hys hyc hA0 hyw
  go_wp2_with (at_builtin; refine wpList_append_in _ rfl _ _ 177 rfl (w.heap.size + 1) 147 iS _ 2 32 Tryz.underlying177 hS hS0 hS1 hS2 rfl (by decide) (.slice (some ⟨b1, 0, none⟩) 2 2) 2 xs rfl (by simpa using HOWN.out) A l.length cap ys rfl HYS.out HA0.out HYW.out HYC.out.one ?c1 ?c2 ?c3 ?_)
  case c1 => unfold maxLen; omega
  case c2 => omega
  case c3 => simp at hn9; omega
  intro v2 w2 hown2 hg2 hat2
  obtain ⟨L0, hL0⟩ : ∃ L0, L0 = L.settleSteps d.dur.length d.size g.area g.used ++ l := ⟨_, rfl⟩
  have hLn : L0.length = 2 + l.length := by rw [hL0, List.length_append]; rfl
  obtain ⟨A2, cap2, rfl, hs2⟩ : ∃ A2 cap2, v2 = .slice A2 L0.length cap2 ∧ StepsIn w2 (fun z => G z ∨ w.heap.size + 1 ≤ z) A2 L0 := by
    have hb1w : w.heap.size + 1 ≤ b1 := by simpa using hb1
    obtain ⟨b2, cap2, rfl, hb2, hb2'⟩ : ∃ b2 cap2, v2 = .slice (some ⟨b2, 0, none⟩) (2 + l.length) cap2 ∧ w.heap.size + 1 ≤ b2 ∧ b2 < w2.heap.size := by
      rcases hown2.2 with ⟨_, h0⟩ | ⟨g2, c2, cu2, hv, hb, hh, _⟩
      · omega
      · exact ⟨g2, c2, hv, hb, block_lt hh⟩
    have hk2 : Keeps [b1] w1 w2 := (Keeps.of_grown hg2).mono (by simp [Value.ownBlock])
    refine ⟨some ⟨b2, 0, none⟩, cap2, by rw [hLn], .inr ⟨b2, 0, xs ++ ys, rfl, .inr hb2, fun j u hu => ?_, ?_⟩⟩
    · have := hown2.cells (g := b2) rfl j u hu
      rwa [Addr.add_lit] at this
    · rw [hL0]
      refine StepCells.append (HXS.out.keep hk2 (fun z hz => by simp at hz; rw [hz]; simp) (fun z hz => .inr (by simpa using hz.1))) (HYC.out.keep hk2 (fun z hz => ?_) (fun z hz => .inl hz))
      simp at hz
      rw [hz]
      intro hGb
      have := (HGA.out b1 hGb).2.2
      omega
  have hk2 : Keeps [b1] w1 w2 := (Keeps.of_grown hg2).mono (by simp [Value.ownBlock])
  have hkw2 : Keeps [] w w2 := ((HKA.out.mono (T := [b1]) (by simp)).trans ((HK1.out.mono (T := [b1]) (by simp)).trans hk2 (fun _ h _ => h)) (fun _ h _ => h)).mono (fun i hi hl => by simp at hi hb1; omega)
  have HCH9 := Lib.hid (show chg d g next l = ((L.runSteps d L0).1, (L.runSteps d L0).2, if (L.runSteps d L0).1 = 0 then { next with settled := true } else { g with settled := false }) by rw [HCH.out, hL0])
  have HST2 := Lib.hid (show ∀ t ∈ L0, t.1 ≤ 65536 ∧ t.2.length ≤ 17179869184 from fun t ht => by
    rw [hL0] at ht
    rcases List.mem_append.1 ht with h9 | h9
    · have hspn := L.st_fits (N := d.dur.length) (a := g.area) hsecs.1 ha
      have hhl : (L.hd g.area d.size).length = d.size := L.hd_length (by omega)
      simp only [L.settleSteps, List.mem_cons, List.not_mem_nil, or_false] at h9
      rcases h9 with rfl | rfl
      · simp only [List.length_replicate]; omega
      · simp only [hhl]; omega
    · exact HST.out t h9)
  have hLn2 : L0.length ≤ 102 := by omega
  have HG0 := Lib.hid (show ∀ z, (G z ∨ w.heap.size + 1 ≤ z) → z ∉ h.l ∧ z ≠ lp from fun z hz => by
    rcases hz with hz | hz
    · exact ⟨(HGA.out z hz).1, (HGA.out z hz).2.1⟩
    · exact ⟨by simp [DH.l]; omega, by omega⟩)
  obtain ⟨w0, hw0⟩ : ∃ w0, w0 = w2.setCell ⟨lp, 4, none⟩ (.bool false) := ⟨_, rfl⟩
  have hk0 : Keeps [lp] w2 w0 := by rw [hw0]; exact (Keeps.refl _ _).setCell (by simp) _
  have HS0 := Lib.hid (hs2.keep hk0 (fun y hy hGy => by simp at hy; exact (HG0.out _ hGy).2 hy) (fun _ h => h))
  have HX0 := Lib.hid (show DskAt w0 h B d from (HX9.out.keep0 hkw2).keep hk0 (fun z hz => ⟨by simp at hz; rw [hz]; exact HNE.out.2.2.2, by simp at hz; rw [hz]; exact HLB.out⟩))
  have hy2 := HY9.out.keep hkw2 (by simp)
  have HY0 := Lib.hid (show LogAt w0 lp h.p { g with settled := false } by unfold LogAt; rw [hw0, row_set hy2 4 _]; rfl)
  have HBX0 := Lib.hid (show w0.heap[bx]? = some (.cells #[.int .i64 (next.area : Int), .int .i64 (next.used : Int), .int .i64 (next.count : Int)] 98 (0, 0)) from
    block_keep (block_keep (block_keep HBXA.out HK1.out (by simp)) hk2 (by simp at hb1 ⊢; omega)) hk0 (by simpa using HBXL.out.2))
  have HKW := Lib.hid (show Keeps [lp] w w0 from (hkw2.mono (by simp)).trans hk0 (by simp))
  have c4c := hk2.cell_some c4b (by simp at hb1 ⊢; omega)
  have f4c := hy2.free 4
  clear hown2 hg2 hat2 hs2 hk2 hkw2 hk0 hy2 hLn hL0 c4a c4b f4a HCH HST HOWN HXS HXO HYS HYC HA0 HYW
  subst hw0
  go_wp2_with fail
  go_loopw [24] (fun iv wr => ∃ k : Nat, k ≤ L0.length ∧ iv = .int .i64 k ∧ (L.runSteps d (L0.take k)).1 = 0 ∧ DskGo (w2.setCell ⟨lp, 4, none⟩ (.bool false)) h B wr (L.runSteps d (L0.take k)).2) (fun iv _ => L0.length - (RowKit.intOf iv).toNat)
  case atStart => exact ⟨0, Nat.zero_le _, rfl, rfl, DskGo.same HX0.out (Keeps.refl _ _)⟩
  case round =>
    obtain ⟨k, hk, rfl, h0, hgo⟩ := hrel
    have HGO := Lib.hid hgo
    obtain ⟨hkq, B1, x1, hb1, hb2⟩ := hgo
    have hlg := HY0.out.keep hkq HNE.out.2.2.2
    have hbr := block_keep HBX0.out hkq HBXL.out.1
    have HLG := Lib.hid hlg
    obtain ⟨D, hD⟩ : ∃ D, D = (L.runSteps d (L0.take k)).2 := ⟨_, rfl⟩
    rw [← hD] at x1
    have HX1 := Lib.hid x1
    have HD := Lib.hid hD
    have H0 := Lib.hid h0
    have HB1 := Lib.hid hb1
    have HB2 := Lib.hid hb2
    have HKQ := Lib.hid hkq
    have g1 := hlg.free 1
    have g2 := hlg.free 2
    have g3 := hlg.free 3
    have g4 := hlg.free 4
    obtain ⟨l0, l1, l2, l3, l4⟩ := hlg.cells
    have n0 : wr.cell? ⟨bx, 0, none⟩ = some (.int .i64 (next.area : Int)) := row_cell hbr 0
    have n1 : wr.cell? ⟨bx, 1, none⟩ = some (.int .i64 (next.used : Int)) := row_cell hbr 1
    have n2 : wr.cell? ⟨bx, 2, none⟩ = some (.int .i64 (next.count : Int)) := row_cell hbr 2
    rw [HBX.out] at n0 n1 n2
    clear x1 hD h0 hb1 hb2 hkq hlg hbr
    by_cases hlk : k < L0.length
    · obtain ⟨b, off, v, hAe, hGb, q1, q2, A', g', cap', rfl, hbi, hcp, hcm, hor⟩ := HS0.out.at hlk
      subst hAe
      have hst := HST2.out _ (List.getElem_mem hlk)
      have HNX := Lib.hid (runSteps_next (d := d) hlk H0.out)
      have hnb := (HG0.out b hGb).1
      have p1 := HKQ.out.cell_some q1 hnb
      have p2 := HKQ.out.cell_some q2 hnb
      obtain ⟨⟨at_, bs⟩, ht⟩ : ∃ t, t = L0[k] := ⟨_, rfl⟩
      rw [← ht] at p1 p2 hst HNX hbi hcp hor
      have HBI := Lib.hid (show ∃ g9, g9 ∉ h.l ∧ BytesIn wr g9 A' bs by
        rcases hor with h9 | h9
        · exact ⟨bx, HBXL.out.1, .inl h9⟩
        · exact ⟨g', (HG0.out g' h9).1, hbi.keep HKQ.out (HG0.out g' h9).1⟩)
      obtain ⟨hat, hbs⟩ := hst
      simp only [] at hat hbs p1 p2 hcp
      clear q1 q2 hGb hor hbi ht hnb
      obtain ⟨g9, hg9, hbi9⟩ := HBI.out
      have hal : Keeps [] wr (wr.alloc (.cells #[.int .i64 (at_ : Int), .slice A' bs.length cap'] 147)) := (Keeps.refl _ _).alloc _
      have HPF := Lib.hid (perform_any _ h B1 D lp { g with settled := false } (HX1.out.keep0 hal) (HLG.out.keep hal (by simp)) at_ g9 cap' A' bs hat (hbi9.keep hal (by simp)) hbs hcp hcm hg9)
      have HAL := Lib.hid hal
      rw [← HD.out] at HNX
      obtain ⟨er, her⟩ : ∃ er, er = (L.perform D at_ bs).1 := ⟨_, rfl⟩
      have HER := Lib.hid her
      clear hal hbi9 hg9 her
      go_wp2_with fail
      refine HPF.out.mono ?_
      rintro e w9 ⟨rfl, hgo2⟩
      rw [← HER.out]
      have HLG2 := Lib.hid (show LogAt w9 lp h.p { g with settled := false } from (HLG.out.keep HAL.out (by simp)).keep hgo2.1 HNE.out.2.2.2)
      have HGO2 := Lib.hid (show DskGo (w2.setCell ⟨lp, 4, none⟩ (.bool false)) h B w9 (L.runSteps d (L0.take (k + 1))).2 by
        rw [HNX.out]
        exact DskGo.later HKQ.out HB1.out HB2.out (DskGo.first0 HAL.out hgo2))
      have HN1 := Lib.hid (show (L.runSteps d (L0.take (k + 1))).1 = er by rw [HNX.out, HER.out])
      clear hgo2
      by_cases h0 : er = 0
      · have hz : ((er : Int) != 0) = false := by rw [h0]; rfl
        have HZ := Lib.hid h0
        clear h0
        go_wp2_with fail
        go_roundw
        case rel => exact ⟨k + 1, by omega, by go_num, by rw [HN1.out, HZ.out], HGO2.out⟩
        case measure => simp [RowKit.intOf]; omega
      · have hz : ((er : Int) != 0) = true := by rw [bne_iff_ne]; omega
        have HSTK := Lib.hid (runSteps_stuck (d := d) (l := L0) (k := k + 1) (by rw [HN1.out]; exact h0))
        have HZ := Lib.hid h0
        clear h0
        go_wp2_with fail
        go_ret
        refine changeP_of (n := er) (g' := { g with settled := false }) ?_ HKW.out HGO2.out HLG2.out
        rw [HCH9.out, HSTK.out, HN1.out, if_neg HZ.out]
    · have hke : L0.take k = L0 := List.take_of_length_le (by omega)
      have HR := Lib.hid (show chg d g next l = (0, D, { next with settled := true }) by
        have h0 := H0.out
        rw [hke] at h0
        rw [HCH9.out, h0, if_pos rfl, HD.out, hke])
      have HGE := Lib.hid (show DskGo (w2.setCell ⟨lp, 4, none⟩ (.bool false)) h B wr D by rw [HD.out]; exact HGO.out)
      have HKE := Lib.hid hke
      clear hke
      go_wp2_with fail
      go_ret
      refine changeP_end (g := { g with settled := false }) (g' := { next with settled := true }) HR.out HKW.out HGE.out HLG.out ⟨HNE.out.2.2.2, fun z hz => by rintro rfl; exact HLB.out hz⟩ HY0.out.lt ?_
      rfl
theorem change_any (w : World) (h : DH) (B : Nat → Prop) (d : Dk) (lp : Nat) (g next : Lg) (G : Nat → Prop) (A : Option Addr) (cap : Nat) (l : List (Nat × List UInt8)) (x : DskAt w h B d) (y : LogAt w lp h.p g) (hlB : ¬ B lp)
    (hs : StepsIn w G A l) (hG : ∀ x, G x → x ∉ h.l ∧ x ≠ lp ∧ x < w.heap.size) (hst : ∀ t ∈ l, t.1 ≤ 65536 ∧ t.2.length ≤ 17179869184) (hl : l.length ≤ 100) (ha : g.area ≤ 1) (hu : g.used ≤ 4096) :
    Calls Tryz.prog 85 #[.pointer (some ⟨lp, 0, none⟩), .agg #[.int .i64 (next.area : Int), .int .i64 (next.used : Int), .int .i64 (next.count : Int)], .slice A l.length cap] w (ChangeP w h B lp (chg d g next l)) := by
  cases hset : g.settled with
  | true => exact change_settled w h B d lp g next G A cap l x y hlB hs hG hst hl ha hu hset
  | false => exact change_unsettled w h B d lp g next G A cap l x y hlB hs hG hst hl ha hu hset
end Go.Proofs.YtbanpdeganlndaaGreatDoor
namespace Go.Proofs.YtbanpdeganlndaaGreatDoor.Reg
open Go Go.RowKit

/-- Whatever has come up had what it waits for. -/
def Closed (l : List Oper) (L : Nat → Bool) : Prop := ∀ i o, l[i]? = some o → L i = true → Aw L o.after.toList
theorem aw_get {L : Nat → Bool} : ∀ {l : List Edge}, Aw L l → ∀ e ∈ l, Region.binds .any e = true → L e.on = true
  | [], _, e, he, _ => by cases he
  | e0 :: r, h, e, he, hb => by
    rcases List.mem_cons.1 he with rfl | he
    · exact h.1 hb
    · exact aw_get h.2 e he hb
theorem aw_mono {L M : Nat → Bool} (h : ∀ k, L k = true → M k = true) {l : List Edge} (a : Aw L l) : Aw M l := aw_of fun e he hb => h _ (aw_get a e he hb)
def before (l : List Oper) (S : List Nat) : List Nat := (List.range l.length).filter fun j => S.contains j || S.any fun i => match l[i]? with
  | some o => o.after.toList.any fun e => Region.binds .any e && e.on == j
  | none => false
def ancs (l : List Oper) : Nat → List Nat → List Nat
  | 0, S => S
  | n + 1, S => ancs l n (before l S)
theorem before_up {l : List Oper} {L : Nat → Bool} (hc : Closed l L) {S : List Nat} (hS : ∀ s ∈ S, L s = true) : ∀ t ∈ before l S, L t = true := by
  intro t ht
  simp only [before, List.mem_filter, Bool.or_eq_true, List.contains_iff_mem, List.any_eq_true] at ht
  rcases ht.2 with h | ⟨i, hi, h⟩
  · exact hS t h
  · cases ho : l[i]? with
    | none => rw [ho] at h; cases h
    | some o =>
      rw [ho] at h
      simp only [List.any_eq_true, Bool.and_eq_true, beq_iff_eq] at h
      obtain ⟨e, he, hb, hon⟩ := h
      rw [← hon]
      exact aw_get (hc i o ho (hS i hi)) e he hb
theorem ancs_up {l : List Oper} {L : Nat → Bool} (hc : Closed l L) : ∀ (n : Nat) {S : List Nat}, (∀ s ∈ S, L s = true) → ∀ t ∈ ancs l n S, L t = true
  | 0, _, h => h
  | n + 1, _, h => ancs_up hc n (before_up hc h)
/-- What holds ahead of the operation, and behind it. -/
def CB (C0 C1 : World → Prop) (b : Bool) (w : World) : Prop := (b = false → C0 w) ∧ (b = true → C1 w)
theorem CB.pre {C0 C1 : World → Prop} {w : World} {i last : Nat} (h : C0 w) (hi : (i == last) = false) : CB C0 C1 (false || i == last) w := ⟨fun _ => h, fun e => by rw [hi] at e; cases e⟩
theorem CB.post {C0 C1 : World → Prop} {w : World} {b : Bool} {last : Nat} (h : C1 w) : CB C0 C1 (b || last == last) w := ⟨fun e => by simp at e, fun _ => h⟩
theorem CB.same {C0 C1 : World → Prop} {w w' : World} {b : Bool} {i last : Nat} (h : CB C0 C1 b w) (hi : (i == last) = false) (h0 : C0 w → C0 w') (h1 : C1 w → C1 w') : CB C0 C1 (b || i == last) w' := by
  rw [hi, Bool.or_false]
  exact ⟨fun e => h0 (h.1 e), fun e => h1 (h.2 e)⟩
def OblT (P : Program) (last : Nat) (anc : List Nat) (C0 C1 : World → Prop) (G : World → World → Prop) (Fs : List Fact) (A : (Nat → Value) → Act) (o : Oper) (i : Nat) : Prop :=
  ∀ (b : Bool) (vs : Nat → Value) (w : World), CB C0 C1 b w → ((anc.contains i || i == last) = true → b = false) → Deps Fs vs w o.after.toList →
    ∀ K : Value → World → Prop, (∀ v w', CB C0 C1 (b || i == last) w' → G w w' → at_ Fs i v w' → K v w') →
      if wantedV o vs = true then Gives P K ((execOp (A vs).eval o).run P w) else K undef w
def OblsT (P : Program) (last : Nat) (anc : List Nat) (C0 C1 : World → Prop) (G : World → World → Prop) (Fs : List Fact) (A : (Nat → Value) → Act) : List Oper → Nat → Prop
  | [], _ => True
  | o :: rest, i => OblT P last anc C0 C1 G Fs A o i ∧ OblsT P last anc C0 C1 G Fs A rest (i + 1)
theorem wp_region_last {P : Program} {id : Nat} {a0 : Act} {w0 : World} {l : List Oper} {Q : Exit → Act → World → Prop} (last : Nat) (anc : List Nat) (C0 C1 : World → Prop) (G : World → World → Prop) (Fs : List Fact) {A : (Nat → Value) → Act} (hm : P.follows .mixedOrders = true)
    (ht : (tidy a0.tmps.size l.toArray && noLate l.toArray) = true) (hanc : (decide (last < l.length) && anc.all fun i => (ancs l l.length [last]).contains i) = true) (hlen : Fs.length = l.length) (hA : ∀ vs, fill a0 l 0 (fun _ => true) vs = A vs)
    (hC : C0 w0.drew) (ho : OblsT P last anc C0 C1 G Fs A l 0) (hlast : LastG G Fs)
    (hend : ∀ vs w, C1 w → All vs w Fs 0 → Q .normal (A vs) w) : (Code.region id l.toArray true).wp P Q a0 w0 := by
  rw [Bool.and_eq_true, decide_eq_true_eq] at hanc
  refine wp_region_free (fun L vs w => Closed l L ∧ CB C0 C1 (L last) w) G Fs hm ht hlen hA (fun vs => ⟨fun i o hi h => ?_, fun _ => hC, fun e => ?_⟩) ?_ hlast (fun vs w h => hend vs w (h.2.2 rfl))
  · have := (List.getElem?_eq_some_iff.1 hi).1
    simp at h; omega
  · have := hanc.1
    simp at e; omega
  · have key : ∀ (r : List Oper) (i : Nat), (∀ k o, r[k]? = some o → l[i + k]? = some o) → OblsT P last anc C0 C1 G Fs A r i → OblsL P (fun L vs w => Closed l L ∧ CB C0 C1 (L last) w) G Fs (fun _ => A) r i := by
      intro r
      induction r with
      | nil => intro i _ _; exact trivial
      | cons o r ih =>
        intro i hi h
        refine ⟨?_, ih (i + 1) (fun k o' hk => by have := hi (k + 1) o' (by simpa using hk); rwa [show i + 1 + k = i + (k + 1) by omega]) h.2⟩
        intro L vs w hC hL hd ha K hK
        refine h.1 (L last) vs w hC.2 (fun hai => ?_) hd K (fun v w' hC' hG hF => hK v w' ⟨?_, ?_⟩ hG hF)
        · cases e : L last with
          | false => rfl
          | true =>
            exfalso
            rw [Bool.or_eq_true] at hai
            rcases hai with hai | hai
            · have h1 := List.all_eq_true.1 hanc.2 i (by simpa using hai)
              have h2 := ancs_up hC.1 l.length (S := [last]) (fun s hs => by simp at hs; rw [hs]; exact e) i (by simpa using h1)
              rw [hL] at h2; cases h2
            · have : i = last := by simpa using hai
              rw [this, e] at hL; cases hL
        · intro j o' hj hLj
          have hmono : ∀ k, L k = true → lay L i k = true := fun k hk => by simp [lay, hk]
          by_cases hji : j = i
          · subst hji
            have := hi 0 o (by simp)
            rw [Nat.add_zero, hj] at this
            obtain rfl := Option.some.inj this
            exact aw_mono hmono ha
          · have : L j = true := by simpa [lay, hji] using hLj
            exact aw_mono hmono (hC.1 j o' hj this)
        · have : lay L i last = (L last || i == last) := by
            unfold lay
            congr 1
            exact Bool.eq_iff_iff.2 ⟨fun h => by rw [beq_iff_eq] at *; exact h.symm, fun h => by rw [beq_iff_eq] at *; exact h.symm⟩
          rw [this]
          exact hC'
    exact key l 0 (fun k o hk => by rw [Nat.zero_add]; exact hk) ho
end Go.Proofs.YtbanpdeganlndaaGreatDoor.Reg
