/- head, frame: bytes that are made. -/
import Derived.Test.YtgjgnieobbhepaaDoorWRows
import Derived.Lib.SlBuf
import Derived.Lib.BufferWrite
namespace Go.Proofs.YtgjgnieobbhepaaDoor
open Go.RowKit

/-- New bytes, in a block of their own. -/
def MadeP (l : List UInt8) (w : World) (e : Ending) (w' : World) : Prop := ∃ g, e = .returned (.slice (some ⟨g, 0, none⟩) l.length l.length) ∧ U8At w' g l ∧ w.heap.size ≤ g ∧ Keeps [] w w'
theorem made_row {w : World} {base n g : Nat} (h : w.ownsRow base 5 1 (.slice (some ⟨g, 0, none⟩) n n) n (madeCells #[Value.int .u8 0] n).toList) : U8At w g (List.replicate n 0) := by
  rcases h.2 with ⟨h0, _⟩ | ⟨g', cp, cur, h2, _, h3, _, _, h4, h5⟩
  · cases h0
  · cases h2
    rw [List.take_of_length_le (by rw [Array.length_toList]; omega)] at h5
    have e : cur = madeCells #[Value.int .u8 0] n := Array.ext' h5
    unfold U8At
    rw [h3, e]
    congr 2
    apply Array.ext
    · simp [madeCells, u8s]
    · intro j q1 q2
      simp [madeCells, u8s, Nat.mod_one]
theorem u8_setRow {w : World} {g : Nat} {l : List UInt8} {cs : Array Value} {l' : List UInt8} (h : U8At w g l) (hc : cs = (u8s l').toArray) : U8At (w.setRow g cs) g l' := by
  have := setRow_heap w g (u8s l).toArray cs 5 (0, 0) h
  unfold U8At
  rw [this, hc]
theorem u8s_over (l m : List UInt8) (off : Nat) : ((u8s l).toArray.toList.take off ++ u8s m ++ (u8s l).toArray.toList.drop (off + (u8s m).length)).toArray = (u8s (over l off m)).toArray := by
  unfold over u8s
  simp
theorem keeps_row {S : List Nat} {a w : World} {g : Nat} {cs : Array Value} (h : Keeps S a w) (hg : g < a.heap.size → g ∈ S) : Keeps S a (w.setRow g cs) := by
  have hk : Keeps [g] w (w.setRow g cs) := ⟨rfl, rfl, rfl, by simp [World.setRow], fun k _ hn => by
    have hne : g ≠ k := fun e => hn (by simp [e])
    simp [World.setRow, Array.getElem?_modify, hne]⟩
  refine h.trans hk (fun i hi hl => ?_)
  obtain rfl : i = g := by simpa using hi
  exact hg hl
/-- copy(b[off:], m), m from wherever. -/
theorem run_copy_over {w : World} {g off dl dc sc gs : Nat} {A : Option Addr} {l m : List UInt8} (ty : TypeId) (hg : U8At w g l) (hm : BytesIn w gs A m) (hfit : m.length ≤ dl) (hoff : off + dl ≤ l.length) :
    ∃ w', (Builtin.copy_ #[34, 34] ty #[.slice (some ⟨g, off, none⟩) dl dc, .slice A m.length sc]).run Tryd.prog w = .ok (goInt m.length) w' ∧ U8At w' g (over l off m) ∧ Keeps [g] w w' := by
  have hsz : (Tryd.prog.info? 5).map (·.size) = some 1 := by kernel_rfl
  rcases hm with h0 | ⟨o, rfl, hc⟩
  · subst h0
    have := run_copy_none (P := Tryd.prog) w 34 34 ty 5 (some ⟨g, off, none⟩) A dl dc 0 sc Tryd.underlying34 hsz (by simp)
    exact ⟨w, this, by rw [over_nil]; exact hg, Keeps.refl _ _⟩
  · have h := run_copy_row (P := Tryd.prog) w 34 34 ty 5 g off dl dc ⟨gs, o, none⟩ m.length sc (u8s l).toArray 5 (u8s m) Tryd.underlying34 hsz hg (by rw [u8s_length]; exact (Nat.min_eq_left hfit).symm) (fun j u hj => by
      have hjl : j < m.length := by
        have := (List.getElem?_eq_some_iff.1 hj).1
        simpa [u8s] using this
      rw [u8s_get hjl] at hj
      cases hj
      rw [Addr.add_lit]
      exact hc j hjl) (by simp [u8s]; omega) (u8s_one m)
    rw [u8s_length] at h
    refine ⟨_, h, u8_setRow hg ?_, keeps_row (Keeps.refl _ _) (by simp)⟩
    have := u8s_over l m off
    rw [u8s_length] at this
    exact this
/-- copy(b[off:], "..."). -/
theorem run_copy_text {w : World} {g off dl dc : Nat} {s : ByteArray} {l : List UInt8} (ty : TypeId) (hg : U8At w g l) (hfit : s.size ≤ dl) (hoff : off + dl ≤ l.length) :
    ∃ w', (Builtin.copy_ #[34, 9] ty #[.slice (some ⟨g, off, none⟩) dl dc, .string s]).run Tryd.prog w = .ok (goInt s.size) w' ∧ U8At w' g (over l off s.data.toList) ∧ Keeps [g] w w' := by
  have hsz : (Tryd.prog.info? 5).map (·.size) = some 1 := by kernel_rfl
  have h := Lib.run_copy_row_string (P := Tryd.prog) w 34 9 ty 5 g off dl dc s (u8s l).toArray 5 Tryd.underlying34 hsz hg hfit (by simp [u8s]; omega)
  refine ⟨_, h, u8_setRow hg ?_, keeps_row (Keeps.refl _ _) (by simp)⟩
  have := u8s_over l s.data.toList off
  rw [u8s_length] at this
  exact this

section
variable {ops : Array Oper} {rest : List Oper} {o : Oper} {a : Act} {Q : Exit → Act → World → Prop} {w : World}
theorem wpList_copy_over (hgd : o.guard = none) (d s : Operand) (ho : o.op = .call { callee := .builtin .copy, args := #[d, s], argTypes := #[34, 34] }) (l m : List UInt8) (g gs off dl dc sc : Nat) (A : Option Addr)
    (hd : a.eval d = .slice (some ⟨g, off, none⟩) dl dc) (hs : a.eval s = .slice A m.length sc) (hg : U8At w g l) (hm : BytesIn w gs A m) (hfit : m.length ≤ dl) (hoff : off + dl ≤ l.length)
    (h : ∀ w', U8At w' g (over l off m) → Keeps [g] w w' → wpList Tryd.prog ops Q rest (a.put o.dst (goInt m.length)) w') : wpList Tryd.prog ops Q (o :: rest) a w := by
  obtain ⟨w', h1, h2, h3⟩ := run_copy_over (dc := dc) (sc := sc) o.type hg hm hfit hoff
  exact Lib.wpList_copy_run w hgd d s _ _ ho _ _ hd hs h1 (h w' h2 h3)
theorem wpList_copy_text (hgd : o.guard = none) (d s : Operand) (ho : o.op = .call { callee := .builtin .copy, args := #[d, s], argTypes := #[34, 9] }) (l : List UInt8) (t : ByteArray) (g off dl dc : Nat)
    (hd : a.eval d = .slice (some ⟨g, off, none⟩) dl dc) (hs : a.eval s = .string t) (hg : U8At w g l) (hfit : t.size ≤ dl) (hoff : off + dl ≤ l.length)
    (h : ∀ w', U8At w' g (over l off t.data.toList) → Keeps [g] w w' → wpList Tryd.prog ops Q rest (a.put o.dst (goInt t.size)) w') : wpList Tryd.prog ops Q (o :: rest) a w := by
  obtain ⟨w', h1, h2, h3⟩ := run_copy_text (dc := dc) o.type hg hfit hoff
  exact Lib.wpList_copy_run w hgd d s _ _ ho _ _ hd hs h1 (h w' h2 h3)
end
theorem head_bytes {a s : Nat} (hs : 12 ≤ s) : over ((List.replicate s 0).set 0 (UInt8.ofNat (a + 1))) 1 L.magic = L.hd a s := by
  obtain ⟨n, rfl⟩ : ∃ n, s = n + 12 := ⟨s - 12, by omega⟩
  rw [show n + 12 = (n + 11) + 1 by rfl, List.replicate_succ, List.set_cons_zero]
  unfold over L.hd
  simp [L.magic]
set_option maxRecDepth 100000 in
set_option maxHeartbeats 1000000 in
theorem head_any (w : World) (a s : Nat) (ha : a ≤ 1) (hs : 64 ≤ s ∧ s ≤ 4096) : Calls Tryd.prog 39 #[.int .i64 (a : Int), .int .i64 (s : Int)] w (MadeP (L.hd a s) w) := by
  obtain ⟨iU, hU, hU0, hU1, hU2⟩ := info_parts infoU8
  obtain ⟨bt, hbt⟩ : ∃ bt, bt = UInt8.ofNat (a + 1) := ⟨_, rfl⟩
  have HB := Lib.hid (show over ((List.replicate s 0).set 0 bt) 1 L.magic = L.hd a s by rw [hbt]; exact head_bytes (a := a) (s := s) (by omega))
  have HBT := Lib.hid hbt
  clear hbt
  have HL := Lib.hid (L.hd_length (a := a) (s := s) (by omega))
  go_enter Tryd.func39, Tryd.ntmps39
  go_wp2_with (at_make; refine wpList_make_full _ rfl _ _ 34 rfl w.heap.size 5 iU (.int .u8 0) 1 Tryd.underlying34 hU hU0 hU1 .i64 .i64 (s : Int) (s : Int) s rfl rfl rfl rfl (by rw [hU2]; omega) (by unfold maxLen; omega) (Nat.le_refl _) ?_)
  intro w1 ho1 hg1
  have hk1 : Keeps [] w w1 := (Keeps.of_grown hg1).mono (by simp)
  have hz1 := made_row ho1
  obtain ⟨y, c0⟩ : ∃ y : Value, w1.cell? ⟨w.heap.size, 0, none⟩ = some y := ⟨_, hz1.cell (i := 0) (by simp; omega)⟩
  have f0 := row_free hz1 0
  have HZ := Lib.hid (hz1.put 0 bt)
  have HK := Lib.hid hk1
  clear ho1 hg1 hk1 hz1
  go_wp2_with (with_reducible refine wpList_copy_text rfl _ _ rfl ((List.replicate s 0).set 0 bt) ⟨#[97, 117, 103, 117, 114, 32, 119, 97, 108, 32, 49]⟩ w.heap.size 1 (s - 1) (s - 1) rfl rfl ?c1 ?c2 ?c3 ?_)
  case c1 => exact HZ.out _ (by rw [HBT.out, L.ofNat_toNat]; congr 1; omega)
  case c2 => show 11 ≤ s - 1; omega
  case c3 => simp; omega
  intro w2 h2 hk2
  have H2 := Lib.hid h2
  have HK2 := Lib.hid hk2
  clear h2 hk2
  go_wp2_with fail
  go_ret
  exact ⟨w.heap.size, by rw [HL.out]; rfl, by rw [← HB.out]; exact H2.out, Nat.le_refl _, ((HK.out.setCell (by simp) _).trans HK2.out (fun i hi hl => by simp at hi; omega))⟩
end Go.Proofs.YtgjgnieobbhepaaDoor
