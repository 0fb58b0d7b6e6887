/- The reference's Int, Text, Bool, Ival. -/
import Derived.Test.YtohmadfaaonaaaaCBuf
namespace Go.Proofs.Ytohmadfaaonaaaa
open Go.RowKit
open Reg (Is Fact)

theorem refInt_any (w : World) (S : List Nat) (v : Value) (l : List UInt8) (z : Int) (hb : BufAt w S v l) (hz : Wide z) (hl : l.length + 10 ≤ 70368744177000) :
    Calls Try.prog 39 #[v, .int .i64 z] w (Grew w S (l ++ encInt z)) := by
  have HB := Lib.hid hb
  have HZ := Lib.hid (M.zig_lt hz.1 hz.2)
  obtain ⟨h1, h2⟩ := hz
  clear hb
  by_cases hneg : z < 0
  · have HC := Lib.hid (show -(z + 1) * 2 + 1 = ((M.zig z : Nat) : Int) by unfold M.zig; rw [if_pos hneg]; omega)
    go_enter Try.func39, Try.ntmps39
    go_wp2_with fail
    rw [HC.out]
    refine (refNum_any w S v l (M.zig z) HB.out HZ.out hl).mono ?_
    rintro e w' ⟨v', g, rfl, q⟩
    have HQ := Lib.hid q
    clear q
    go_wp2_with fail
    go_ret
    exact ⟨v', g, rfl, HQ.out⟩
  · have hpos : 0 ≤ z := by omega
    have HC := Lib.hid (show z * 2 = ((M.zig z : Nat) : Int) by unfold M.zig; rw [if_neg hneg]; omega)
    clear hneg
    go_enter Try.func39, Try.ntmps39
    go_wp2_with fail
    rw [HC.out]
    refine (refNum_any w S v l (M.zig z) HB.out HZ.out hl).mono ?_
    rintro e w' ⟨v', g, rfl, q⟩
    have HQ := Lib.hid q
    clear q
    go_wp2_with fail
    go_ret
    exact ⟨v', g, rfl, HQ.out⟩

theorem refBool_any (w : World) (S : List Nat) (v : Value) (l : List UInt8) (b : Bool) (hb : BufAt w S v l) (hl : l.length + 10 ≤ 70368744177000) :
    Calls Try.prog 40 #[v, .bool b] w (Grew w S (l ++ M.encBool b)) := by
  obtain ⟨i0, hi, hz0, hz1, hz2⟩ := info_parts infoU8
  have HB := Lib.hid hb
  clear hb
  cases b
  · have HC := Lib.hid (show ∀ (w : World) j u, (u8s [(0 : UInt8)])[j]? = some u → (w.alloc (.cells #[.int .u8 0] 5)).cell? ((⟨w.heap.size, 0, none⟩ : Addr).add j) = some u from fun w => cell_one_new w _ _)
    go_enter Try.func40, Try.ntmps40
    go_wp2_with (at_builtin; refine wpList_append_buf _ rfl _ _ 27 rfl i0 Try.underlying27 hi hz0 hz1 hz2 S _ l rfl (HB.out.keep0 ((Keeps.refl _ _).alloc _)) ⟨w.heap.size, 0, none⟩ 1 1 [0] rfl rfl (by omega) (HC.out w) (by omega) ?_)
    intro v1 w1 g1 q1 q2 q3
    have HQ := Lib.hid (show Grew w S (l ++ M.encBool false) (.returned v1) w1 from ⟨v1, g1, rfl, q1, q2.imp id (fun h => by omega), ((Keeps.refl S w).alloc _).trans q3 (fun _ h _ => h)⟩)
    clear q1 q2 q3
    go_wp2
    go_ret
    exact HQ.out
  · have HC := Lib.hid (show ∀ (w : World) j u, (u8s [(1 : UInt8)])[j]? = some u → (w.alloc (.cells #[.int .u8 1] 5)).cell? ((⟨w.heap.size, 0, none⟩ : Addr).add j) = some u from fun w => cell_one_new w _ _)
    go_enter Try.func40, Try.ntmps40
    go_wp2_with (at_builtin; refine wpList_append_buf _ rfl _ _ 27 rfl i0 Try.underlying27 hi hz0 hz1 hz2 S _ l rfl (HB.out.keep0 ((Keeps.refl _ _).alloc _)) ⟨w.heap.size, 0, none⟩ 1 1 [1] rfl rfl (by omega) (HC.out w) (by omega) ?_)
    intro v1 w1 g1 q1 q2 q3
    have HQ := Lib.hid (show Grew w S (l ++ M.encBool true) (.returned v1) w1 from ⟨v1, g1, rfl, q1, q2.imp id (fun h => by omega), ((Keeps.refl S w).alloc _).trans q3 (fun _ h _ => h)⟩)
    clear q1 q2 q3
    go_wp2
    go_ret
    exact HQ.out

theorem refText_any (w : World) (S : List Nat) (v : Value) (l : List UInt8) (s : ByteArray) (hb : BufAt w S v l) (hl : l.length + 10 + s.size ≤ 70368744177000) :
    Calls Try.prog 19 #[v, .string s] w (Grew w S (l ++ encT s)) := by
  obtain ⟨i0, hi, hz0, hz1, hz2⟩ := info_parts infoU8
  have HB := Lib.hid hb
  clear hb
  have hs : s.size ≤ 70368744177000 := by omega
  have HEL := Lib.hid (M.enc_len64 (show s.size < 18446744073709551616 by omega))
  go_enter Try.func19, Try.ntmps19
  go_wp2_with fail
  refine (refNum_any w S v l s.size HB.out (by omega) (by omega)).mono ?_
  rintro e w1 ⟨v1, g1, rfl, q1, q2, q3⟩
  obtain ⟨l1, hl1⟩ : ∃ l1, l1 = l ++ M.enc s.size := ⟨_, rfl⟩
  rw [← hl1] at q1
  obtain ⟨⟨c1, rfl⟩, hown⟩ := q1
  have hlen : l1.length + s.size ≤ 140737488355328 := by rw [hl1, List.length_append]; have := HEL.out; omega
  have HL1 := Lib.hid hl1
  have HO := Lib.hid hown
  have HQ2 := Lib.hid q2
  have HQ3 := Lib.hid q3
  clear hl1 hown q2 q3
  go_wp2_with (at_builtin; refine wpList_append_text _ rfl _ _ 27 9 rfl 0 5 i0 Try.underlying27 Try.underlying9 hi hz0 hz1 hz2 _ _ _ rfl HO.out s rfl hlen (Nat.zero_le _) ?_)
  intro v2 w2 h1 h2 h3
  have HG := Lib.hid (show Grew w S (l ++ encT s) (.returned v2) w2 by
    have hsz : 0 < l1.length := by rw [HL1.out, List.length_append]; have := M.enc_pos s.size; omega
    obtain ⟨g2, c2, hv2⟩ := own_slice h1 (by omega)
    have e : l ++ encT s = l1 ++ s.data.toList := by rw [HL1.out, List.append_assoc]; unfold encT M.encText; rw [Array.length_toList]; rfl
    have e2 : l1.length + s.size = (l ++ encT s).length := by rw [e, List.length_append, Array.length_toList]; rfl
    rw [e2, ← u8s_append, ← e] at h1
    rw [hv2] at h3
    refine ⟨v2, g2, rfl, ⟨⟨c2, by rw [hv2, e2]⟩, h1⟩, ?_, HQ3.out.trans (Keeps.of_grown h2) (fun x hx hlx => ?_)⟩
    · have := HQ3.out.size
      rcases h3 with h3 | h3
      · have : g2 = g1 := by simpa [Value.ownBlock] using h3
        rw [this]; exact HQ2.out
      · have : g2 = w1.heap.size := by simpa [Value.ownBlock] using h3
        exact .inr (by omega)
    · have : x = g1 := by simpa [Value.ownBlock, eq_comm] using hx
      rcases HQ2.out with h | h
      · rw [this]; exact h
      · omega)
  clear h1 h2 h3
  go_wp2
  go_ret
  exact HG.out

/-! ### A region of calls, each of which appends to what the one before answered -/
def St (w0 : World) (S : List Nat) (l : List UInt8) (w : World) (v : Value) : Prop := ∃ g, OwnAt w g v l ∧ (g ∈ S ∨ w0.heap.size ≤ g)
theorem St.of_grew {w0 w w' : World} {S : List Nat} {l : List UInt8} {v : Value} (hk : Keeps S w0 w) (h : Grew w S l (.returned v) w') : St w0 S l w' v ∧ Keeps S w0 w' := by
  obtain ⟨v', g, he, q1, q2, q3⟩ := h
  cases he
  have := hk.size
  exact ⟨⟨g, q1, q2.imp id (fun h => by omega)⟩, hk.trans q3 (fun _ h _ => h)⟩
theorem St.next {w0 w w' : World} {S : List Nat} {l' : List UInt8} {v' : Value} {g : Nat} (hk : Keeps S w0 w) (hg : g ∈ S ∨ w0.heap.size ≤ g) (h : Grew w [g] l' (.returned v') w') : St w0 S l' w' v' ∧ Keeps S w0 w' := by
  obtain ⟨v', g', he, q1, q2, q3⟩ := h
  cases he
  have := hk.size
  refine ⟨⟨g', q1, ?_⟩, hk.trans q3 (fun x hx hl => ?_)⟩
  · rcases q2 with q2 | q2
    · obtain rfl : g' = g := by simpa using q2
      exact hg
    · exact .inr (by omega)
  · obtain rfl : x = g := by simpa using hx
    rcases hg with h | h
    · exact h
    · omega
def C2 (w0 : World) (S : List Nat) (v0 : Value) (l0 l1 l2 : List UInt8) (c1 c2 ca : Nat) (L : Nat → Bool) (vs : Nat → Value) (w : World) : Prop :=
  Keeps S w0 w ∧ (L c2 = true → L c1 = true) ∧ (L ca = true → L c2 = true ∧ vs ca = vs c2) ∧ (L c1 = false → BufAt w S v0 l0) ∧ (L c1 = true → L c2 = false → St w0 S l1 w (vs c1)) ∧ (L c2 = true → St w0 S l2 w (vs c2))
section
variable {w0 w w' : World} {S : List Nat} {v0 v : Value} {l0 l1 l2 : List UInt8} {c1 c2 ca i : Nat} {L : Nat → Bool} {vs : Nat → Value}
theorem lay_ne {L : Nat → Bool} {i c : Nat} (h : i ≠ c) : Reg.lay L i c = L c := by simp [Reg.lay]; intro hc; omega
theorem lay_eq {L : Nat → Bool} {i : Nat} : Reg.lay L i i = true := by simp [Reg.lay]
theorem upd_ne {vs : Nat → Value} {i c : Nat} {v : Value} (h : i ≠ c) : Reg.upd vs i v c = vs c := by unfold Reg.upd; rw [if_neg (fun e => h e.symm)]
theorem upd_eq {vs : Nat → Value} {i : Nat} {v : Value} : Reg.upd vs i v i = v := by unfold Reg.upd; rw [if_pos rfl]
theorem not_up {a b : Bool} (h : a = true → b = true) (hb : b = false) : a = false := by
  rcases a with _ | _
  · rfl
  · rw [h rfl] at hb; cases hb
theorem C2.pure (h : C2 w0 S v0 l0 l1 l2 c1 c2 ca L vs w) (h1 : i ≠ c1) (h2 : i ≠ c2) (h3 : i ≠ ca) : C2 w0 S v0 l0 l1 l2 c1 c2 ca (Reg.lay L i) (Reg.upd vs i v) w := by
  unfold C2
  rw [lay_ne h1, lay_ne h2, lay_ne h3, upd_ne h1, upd_ne h2, upd_ne h3]
  exact h
theorem C2.first (h : C2 w0 S v0 l0 l1 l2 c1 c2 ca L vs w) (hn : c1 ≠ c2) (hna : c1 ≠ ca) (hL : L c1 = false) (hg : Grew w S l1 (.returned v) w') : C2 w0 S v0 l0 l1 l2 c1 c2 ca (Reg.lay L c1) (Reg.upd vs c1 v) w' := by
  have h2 : L c2 = false := not_up h.2.1 hL
  have h3 : L ca = false := not_up (fun e => (h.2.2.1 e).1) h2
  obtain ⟨s1, s2⟩ := St.of_grew h.1 hg
  unfold C2
  rw [lay_eq, lay_ne hn, lay_ne hna, upd_eq, h2, h3]
  exact ⟨s2, fun _ => rfl, fun h => (by cases h), fun h => (by cases h), fun _ _ => s1, fun h => (by cases h)⟩
theorem C2.second (h : C2 w0 S v0 l0 l1 l2 c1 c2 ca L vs w) (hn : c1 ≠ c2) (hna : c2 ≠ ca) (hL1 : L c1 = true) (hL2 : L c2 = false) {g : Nat} (hg : g ∈ S ∨ w0.heap.size ≤ g) (hgr : Grew w [g] l2 (.returned v) w') : C2 w0 S v0 l0 l1 l2 c1 c2 ca (Reg.lay L c2) (Reg.upd vs c2 v) w' := by
  obtain ⟨s1, s2⟩ := St.next h.1 hg hgr
  have h3 : L ca = false := not_up (fun e => (h.2.2.1 e).1) hL2
  unfold C2
  rw [lay_eq, lay_ne (Ne.symm hn), lay_ne hna, upd_eq, hL1, h3]
  exact ⟨s2, fun _ => rfl, fun h => (by cases h), fun h => (by cases h), fun _ h => (by cases h), fun _ => s1⟩
theorem C2.last (h : C2 w0 S v0 l0 l1 l2 c1 c2 ca L vs w) (h1 : ca ≠ c1) (h2 : ca ≠ c2) (hL : L c2 = true) : C2 w0 S v0 l0 l1 l2 c1 c2 ca (Reg.lay L ca) (Reg.upd vs ca (vs c2)) w := by
  unfold C2
  rw [lay_ne h1, lay_ne h2, lay_eq, upd_ne h1, upd_ne h2, upd_eq]
  exact ⟨h.1, h.2.1, fun _ => ⟨hL, rfl⟩, h.2.2.2⟩
end
theorem C2.grew {w ws we : World} {S : List Nat} {g c1 c2 ca : Nat} {v0 : Value} {l0 l1 l2 l' : List UInt8} {L : Nat → Bool} {vs : Nat → Value} (h : C2 ws [g] v0 l0 l1 l2 c1 c2 ca L vs we) (hL : L ca = true) (hl : l2 = l') (hg : g ∈ S ∨ w.heap.size ≤ g) (hk : Keeps S w ws) :
    Grew w S l' (.returned (vs ca)) we := by
  obtain ⟨k, _, ka, _, _, kl⟩ := h
  obtain ⟨hc2, hv⟩ := ka hL
  obtain ⟨g', s1, s2⟩ := kl hc2
  have := hk.size
  rw [hv, ← hl]
  refine ⟨_, g', rfl, s1, ?_, hk.trans k (fun x hx hlx => ?_)⟩
  · rcases s2 with s2 | s2
    · obtain rfl : g' = g := by simpa using s2
      exact hg
    · exact .inr (by omega)
  · obtain rfl : x = g := by simpa using hx
    rcases hg with h | h
    · exact h
    · omega
theorem Is.lastU {u : Value} : ∀ v w w', Is u v w → (fun (_ _ : World) => True) w w' → Is u v w' := fun _ _ _ h _ => h
def Any : Fact := fun _ _ => True
theorem Any.lastU : ∀ v w w', Any v w → (fun (_ _ : World) => True) w w' → Any v w' := fun _ _ _ h _ => h

theorem new_cell {w : World} {cs : Array Value} {t : TypeId} (j : Nat) : (w.alloc (.cells cs t)).cell? ⟨w.heap.size, j, none⟩ = cs[j]? := cell_of_row _ _ _ _ _ _ (heap_alloc_new w _)
/-- An interval. -/
structure Iv where
  some : Bool
  lo : Int
  hi : Int
def Iv.ok (v : Iv) : Prop := Wide v.lo ∧ Wide v.hi
def Iv.cells (v : Iv) : Array Value := #[.bool v.some, .int .i64 v.lo, .int .i64 v.hi]
def encIv (v : Iv) : List UInt8 := M.encBool v.some ++ if v.some then encInt v.lo ++ encInt v.hi else []
theorem encIv_len {v : Iv} (h : v.ok) : (encIv v).length ≤ 21 := by
  have h1 := encInt_len h.1
  have h2 := encInt_len h.2
  unfold encIv
  split
  · simp only [List.length_append, M.encBool, List.length_cons, List.length_nil]; omega
  · simp only [List.length_append, M.encBool, List.length_cons, List.length_nil]; omega

attribute [local go_sem] Reg.lateFr Reg.wantedV Reg.gives_value Reg.gives_skip Reg.gives_enter
set_option maxHeartbeats 1000000 in
set_option maxRecDepth 100000 in
theorem refIval_any (w : World) (S : List Nat) (v : Value) (l : List UInt8) (iv : Iv) (hb : BufAt w S v l) (hv : iv.ok) (hl : l.length + 30 ≤ 70368744177000) :
    Calls Try.prog 58 #[v, .agg #[.bool iv.some, .int .i64 iv.lo, .int .i64 iv.hi]] w (Grew w S (l ++ encIv iv)) := by
  obtain ⟨sm, lo, hi⟩ := iv
  have HB := Lib.hid hb
  have HS := Lib.hid hb.lt
  have HV : Hid (Wide lo ∧ Wide hi) := Lib.hid hv
  clear hb hv
  go_enter Try.func58, Try.ntmps58
  go_wp2_with fail
  refine (refBool_any _ S v l sm (HB.out.keep0 ((Keeps.refl _ _).alloc _)) (by omega)).mono ?_
  rintro e w1 ⟨v1, g1, rfl, q1, q2, q3⟩
  have hnb : w.heap.size ∉ S := fun hm => by have := HS.out _ hm; omega
  have hb0 : w1.cell? ⟨w.heap.size, 0, none⟩ = some (.bool sm) := q3.cell_some (new_cell 0) hnb
  have hb1 : w1.cell? ⟨w.heap.size, 1, none⟩ = some (.int .i64 lo) := q3.cell_some (new_cell 1) hnb
  have hb2 : w1.cell? ⟨w.heap.size, 2, none⟩ = some (.int .i64 hi) := q3.cell_some (new_cell 2) hnb
  have HQ1 := Lib.hid q1
  have HQ2 : Hid (g1 ∈ S ∨ w.heap.size ≤ g1) := Lib.hid (q2.imp id (fun h => by simp at h; omega))
  have HQ3 : Hid (Keeps S w w1) := Lib.hid (((Keeps.refl S w).alloc _).trans q3 (fun _ h _ => h))
  clear q1 q2 q3 hnb
  cases sm with
  | false =>
    have HE := Lib.hid (show l ++ M.encBool false = l ++ encIv ⟨false, lo, hi⟩ by simp [encIv])
    go_wp2_with fail
    go_ret
    exact ⟨v1, g1, rfl, by rw [← HE.out]; exact HQ1.out, HQ2.out, HQ3.out⟩
  | true =>
    have HE := Lib.hid (show l ++ M.encBool true ++ encInt lo ++ encInt hi = l ++ encIv ⟨true, lo, hi⟩ by simp [encIv])
    obtain ⟨l1, hl1⟩ : ∃ l1, l1 = l ++ M.encBool true := ⟨_, rfl⟩
    rw [← hl1] at HQ1 HE
    have hlen : l1.length + 29 ≤ 70368744177000 := by rw [hl1]; simp [M.encBool]; omega
    have HELO := Lib.hid (encInt_len HV.out.1)
    have HBX : Hid (w.heap.size ∉ [g1] ∨ True) := Lib.hid (.inr trivial)
    have hbg : w.heap.size ≠ g1 := by
      intro h
      obtain ⟨cap, h1, h2, h3, h4⟩ := HQ1.out.bytes
      rw [← h] at h2
      rcases h2 with h2 | ⟨off, h2, hc⟩
      · have := congrArg List.length h2
        rw [hl1] at this
        simp [M.encBool] at this
      · have hof : off = 0 := by simpa using h2.symm
        have := hc 0 (by rw [hl1]; simp [M.encBool])
        rw [hof] at this
        have h5 := hb0.symm.trans this
        simp at h5
    have HBG := Lib.hid hbg
    clear hl1 HBX hbg
    go_wp2_with fail
    refine Reg.wp_region_late (A := ?A) (B := ?B) [0] [7] (C2 w1 [g1] v1 l1 (l1 ++ encInt lo) (l1 ++ encInt lo ++ encInt hi) 3 6 7) (fun _ _ => True)
      [Is v1, Is (.pointer (some ⟨w.heap.size, 1, none⟩)), Is (.int .i64 lo), Any, Is (.pointer (some ⟨w.heap.size, 2, none⟩)), Is (.int .i64 hi), Any, Any]
      (by kernel_rfl) (by kernel_rfl) rfl ?hA ?hB ?hC ?ho ?hlast ?hend
    case hA => intro vs; simp only [Reg.fill, if_true, Nat.zero_add, Nat.reduceAdd, Act.put, List.setIfInBounds_toArray, List.set_cons_succ, List.set_cons_zero]; exact rfl
    case hB => intro vs; simp only [Reg.fill, List.contains_cons, List.contains_nil, Nat.zero_add, Nat.reduceAdd, Nat.reduceBEq, Bool.or_false, Bool.not_true, Bool.not_false, if_true, if_false, Bool.false_eq_true, Act.put, List.setIfInBounds_toArray, List.set_cons_succ, List.set_cons_zero]; exact rfl
    case hC => exact fun vs => ⟨(Keeps.refl _ _).drew, by simp, by simp, fun _ => HQ1.out.buf, by simp, by simp⟩
    case hlast => repeat (first | exact trivial | refine ⟨Is.lastU, ?_⟩ | refine ⟨Any.lastU, ?_⟩)
    case ho =>
      repeat' apply And.intro
      all_goals
        first
          | exact trivial
          | (intro L vs w' hC hL hd ha K hK
             try simp only [Reg.Deps, Reg.at_, List.getD_cons_zero, List.getD_cons_succ, Region.binds, true_implies, Is, and_true] at hd
             try simp only [Reg.Aw, Region.binds, true_implies, and_true] at ha
             have hb1' := hC.1.cell_some hb1 (by simpa using HBG.out)
             have hb2' := hC.1.cell_some hb2 (by simpa using HBG.out)
             go_simp
             first
               | exact hK _ _ (hC.pure (by decide) (by decide) (by decide)) trivial rfl
               | skip)
      · refine (refInt_any w' [g1] v1 l1 lo (hC.2.2.2.1 hL) HV.out.1 (by omega)).mono ?_
        rintro e w'' ⟨v2, g2, rfl, q⟩
        exact ⟨_, rfl, hK _ _ (hC.first (by decide) (by decide) hL ⟨v2, g2, rfl, q⟩) trivial trivial⟩
      · obtain ⟨g3, s1, s2⟩ := hC.2.2.2.2.1 ha.1 hL
        refine (refInt_any w' [g3] (vs 3) _ hi s1.buf HV.out.2 (by have := HELO.out; rw [List.length_append]; omega)).mono ?_
        rintro e w'' ⟨v2, g2, rfl, q⟩
        exact ⟨_, rfl, hK _ _ (hC.second (by decide) (by decide) ha.1 hL s2 ⟨v2, g2, rfl, q⟩) trivial trivial⟩
      · exact hK _ _ (hC.last (by decide) (by decide) ha.1) trivial trivial
    case hend =>
      intro vs w2 hC hall
      have HG := Lib.hid (show Grew w S (l ++ encIv ⟨true, lo, hi⟩) (.returned (vs 7)) w2 from hC.grew rfl HE.out HQ2.out HQ3.out)
      clear hC hall
      go_wp2
      go_ret
      exact HG.out
end Go.Proofs.Ytohmadfaaonaaaa
