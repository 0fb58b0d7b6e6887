/- The reference's Alarms, Summary; put. -/
import Derived.Test.YtohmadfaaonaaaaCRef
namespace Go.Proofs.Ytohmadfaaonaaaa
open Go.RowKit
open Reg (Is Fact)

/-- An alarm. -/
structure Al where
  pos : Int
  kind : Int
def Al.ok (a : Al) : Prop := Wide a.pos ∧ Wide a.kind
def encAl (a : Al) : List UInt8 := encInt a.pos ++ encInt a.kind
theorem encAl_len {a : Al} (h : a.ok) : (encAl a).length ≤ 20 := by
  have h1 := encInt_len h.1
  have h2 := encInt_len h.2
  unfold encAl
  rw [List.length_append]; omega
def AlsIn (w : World) (h : Nat) (A : Option Addr) (als : List Al) : Prop :=
  als = [] ∨ ∃ off, A = some ⟨h, off, none⟩ ∧ ∀ k (hk : k < als.length), w.cell? ⟨h, off + k * 2, none⟩ = some (.int .i64 als[k].pos) ∧ w.cell? ⟨h, off + k * 2 + 1, none⟩ = some (.int .i64 als[k].kind)
theorem AlsIn.keep {S : List Nat} {w w' : World} {g : Nat} {A : Option Addr} {l : List Al} (h : AlsIn w g A l) (hk : Keeps S w w') (hn : g ∉ S) : AlsIn w' g A l := by
  rcases h with h | ⟨off, hA, hc⟩
  · exact .inl h
  · exact .inr ⟨off, hA, fun k hl => ⟨hk.cell_some (hc k hl).1 hn, hk.cell_some (hc k hl).2 hn⟩⟩
theorem flat_als_len : ∀ (als : List Al), (∀ a ∈ als, a.ok) → (als.flatMap encAl).length ≤ 20 * als.length
  | [], _ => by simp
  | a :: r, h => by
    have h1 := flat_als_len r (fun m hm => h m (by simp [hm]))
    have h2 := encAl_len (h a (by simp))
    simp only [List.flatMap_cons, List.length_append, List.length_cons]
    omega

attribute [local go_sem] Reg.lateFr Reg.wantedV Reg.gives_value Reg.gives_skip Reg.gives_enter
set_option maxHeartbeats 2000000 in
set_option maxRecDepth 100000 in
theorem refAlarms_any (w : World) (S : List Nat) (v : Value) (l : List UInt8) (h : Nat) (A : Option Addr) (als : List Al) (cap : Nat) (hb : BufAt w S v l) (hr : AlsIn w h A als) (hh : h ∉ S) (hok : ∀ a ∈ als, a.ok) (hn : als.length ≤ 1000000) (hl : l.length ≤ 1000000000) :
    Calls Try.prog 59 #[v, .slice A als.length cap] w (Grew w S (l ++ M.enc als.length ++ als.flatMap encAl)) := by
  have HB := Lib.hid hb
  have HR := Lib.hid hr
  have HOK := Lib.hid hok
  have HEL := Lib.hid (M.enc_len64 (show als.length < 18446744073709551616 by omega))
  clear hb hr hok
  go_enter Try.func59, Try.ntmps59
  go_wp2_with fail
  refine (refNum_any w S v l als.length HB.out (by omega) (by omega)).mono ?_
  rintro e w1 ⟨v1, g1, rfl, q1, q2, q3⟩
  have HQ1 := Lib.hid q1
  have HQ2 := Lib.hid q2
  have HQ3 := Lib.hid q3
  clear q1 q2 q3
  go_wp2_with fail
  go_loopw [0, 5] (fun b i wr => ∃ k g : Nat, k ≤ als.length ∧ i = .int .i64 k ∧ OwnAt wr g b (l ++ M.enc als.length ++ (als.take k).flatMap encAl) ∧ (g ∈ S ∨ w.heap.size ≤ g) ∧ Keeps S w wr) (fun _ i _ => als.length - (intOf i).toNat)
  case atStart => exact ⟨0, g1, Nat.zero_le _, rfl, by simpa using HQ1.out, HQ2.out, HQ3.out⟩
  case round =>
    obtain ⟨k, g, hk, rfl, ho, hg, hkp⟩ := hrel
    have HO := Lib.hid ho
    have HG := Lib.hid hg
    have HK := Lib.hid hkp
    clear ho hg hkp
    by_cases hlt : k < als.length
    · rcases HR.out with h0 | ⟨off, rfl, hcell⟩
      · subst h0; simp at hlt
      · have hc := hcell k hlt
        have HE := Lib.hid (flat_next encAl (l ++ M.enc als.length) hlt)
        have hkind := HOK.out _ (List.getElem_mem hlt)
        have hbl : h < w.heap.size := World.block_lt_of_cell? w _ hc.1
        obtain ⟨⟨po, ki⟩, hn2⟩ : ∃ n, n = als[k] := ⟨_, rfl⟩
        rw [← hn2] at hc hkind HE
        have hc1 := HK.out.cell_some hc.1 hh
        have hc2 := HK.out.cell_some hc.2 hh
        obtain ⟨L1, hL1⟩ : ∃ L1, L1 = l ++ M.enc als.length ++ (als.take k).flatMap encAl := ⟨_, rfl⟩
        rw [← hL1] at HO HE
        have hlen : L1.length ≤ 1020000100 := by
          rw [hL1]
          have h1 := flat_als_len (als.take k) (fun m hm => HOK.out m (List.mem_of_mem_take hm))
          have h2 := HEL.out
          simp only [List.length_append]
          simp only [List.length_take] at h1
          omega
        have hhg : h ∉ [g] := by
          have := HG.out
          intro hm
          obtain rfl : h = g := by simpa using hm
          rcases this with h1 | h1
          · exact hh h1
          · omega
        have HHG := Lib.hid hhg
        have HKI : Hid (Wide po ∧ Wide ki) := Lib.hid hkind
        have HL1 := Lib.hid hL1
        have HELP := Lib.hid (encInt_len hkind.1)
        clear hc hcell hn2 hbl hL1 hhg hkind
        go_wp2_with fail
        refine Reg.wp_region_late (A := ?A) (B := ?B) [0] [13] (C2 wr [g] u0 L1 (L1 ++ encInt po) (L1 ++ encInt po ++ encInt ki) 6 12 13) (fun _ _ => True)
          [Is u0, Is (.slice (some ⟨h, off, none⟩) als.length cap), Is (.int .i64 (k : Int)), Is (.pointer (some ⟨h, off + k * 2, none⟩)), Is (.pointer (some ⟨h, off + k * 2, none⟩)), Is (.int .i64 po), Any, Is (.slice (some ⟨h, off, none⟩) als.length cap), Is (.int .i64 (k : Int)), Is (.pointer (some ⟨h, off + k * 2, none⟩)), Is (.pointer (some ⟨h, off + k * 2 + 1, none⟩)), Is (.int .i64 ki), Any, Any]
          (by kernel_rfl) (by kernel_rfl) rfl ?hA ?hB ?hC ?ho ?hlast ?hend
        case hA => intro vs; simp only [Reg.fill, if_true, Nat.zero_add, Nat.reduceAdd, Act.put, List.setIfInBounds_toArray, List.set_cons_succ, List.set_cons_zero]; exact rfl
        case hB => intro vs; simp only [Reg.fill, List.contains_cons, List.contains_nil, Nat.zero_add, Nat.reduceAdd, Nat.reduceBEq, Bool.or_false, Bool.not_true, Bool.not_false, if_true, if_false, Bool.false_eq_true, Act.put, List.setIfInBounds_toArray, List.set_cons_succ, List.set_cons_zero]; exact rfl
        case hC => exact fun vs => ⟨(Keeps.refl _ _).drew, by simp, by simp, fun _ => HO.out.buf, by simp, by simp⟩
        case hlast => repeat (first | exact trivial | refine ⟨Is.lastU, ?_⟩ | refine ⟨Any.lastU, ?_⟩)
        case ho =>
          repeat' apply And.intro
          all_goals
            first
              | exact trivial
              | (intro L vs w' hC hL hd ha K hK
                 try simp only [Reg.Deps, Reg.at_, List.getD_cons_zero, List.getD_cons_succ, Region.binds, true_implies, Is, and_true] at hd
                 try simp only [Reg.Aw, Region.binds, true_implies, and_true] at ha
                 have hc1' := hC.1.cell_some hc1 HHG.out
                 have hc2' := hC.1.cell_some hc2 HHG.out
                 go_simp
                 first
                   | exact hK _ _ (hC.pure (by decide) (by decide) (by decide)) trivial rfl
                   | skip)
          · refine (refInt_any w' [g] u0 L1 po (hC.2.2.2.1 hL) HKI.out.1 (by omega)).mono ?_
            rintro e w'' ⟨v2, g2, rfl, q⟩
            exact ⟨_, rfl, hK _ _ (hC.first (by decide) (by decide) hL ⟨v2, g2, rfl, q⟩) trivial trivial⟩
          · obtain ⟨g3, s1, s2⟩ := hC.2.2.2.2.1 ha.1 hL
            refine (refInt_any w' [g3] (vs 6) _ ki s1.buf HKI.out.2 (by have := HELP.out; rw [List.length_append]; omega)).mono ?_
            rintro e w'' ⟨v2, g2, rfl, q⟩
            exact ⟨_, rfl, hK _ _ (hC.second (by decide) (by decide) ha.1 hL s2 ⟨v2, g2, rfl, q⟩) trivial trivial⟩
          · exact hK _ _ (hC.last (by decide) (by decide) ha.1) trivial trivial
        case hend =>
          intro vs w2 hC hall
          have hgr := hC.grew rfl (show L1 ++ encInt po ++ encInt ki = l ++ M.enc als.length ++ (als.take (k + 1)).flatMap encAl by rw [← HE.out]; simp [encAl]) HG.out HK.out
          obtain ⟨v', g', hv', r1, r2, r3⟩ := hgr
          have HR1 := Lib.hid r1
          have HR2 := Lib.hid r2
          have HR3 := Lib.hid r3
          have HV' : Hid (v' = vs 13) := Lib.hid (by cases hv'; rfl)
          clear hC hall hv' r1 r2 r3
          go_wp2
          go_roundw
          case rel => exact ⟨k + 1, g', by omega, by go_num, by rw [← HV'.out]; exact HR1.out, HR2.out, HR3.out⟩
          case measure => simp [intOf]; omega
    · have HD := Lib.hid (show OwnAt wr g u0 (l ++ M.enc als.length ++ als.flatMap encAl) by have := HO.out; rwa [List.take_of_length_le (by omega)] at this)
      go_wp2
      go_ret
      exact ⟨_, g, rfl, HD.out, HG.out, HK.out⟩

/-! ### Three calls -/
def C3 (w0 : World) (S : List Nat) (v0 : Value) (l0 l1 l2 l3 : List UInt8) (c1 c2 c3 ca : Nat) (L : Nat → Bool) (vs : Nat → Value) (w : World) : Prop :=
  Keeps S w0 w ∧ (L c2 = true → L c1 = true) ∧ (L c3 = true → L c2 = true) ∧ (L ca = true → L c3 = true ∧ vs ca = vs c3) ∧ (L c1 = false → BufAt w S v0 l0) ∧ (L c1 = true → L c2 = false → St w0 S l1 w (vs c1)) ∧ (L c2 = true → L c3 = false → St w0 S l2 w (vs c2)) ∧ (L c3 = true → St w0 S l3 w (vs c3))
section
variable {w0 w w' : World} {S : List Nat} {v0 v : Value} {l0 l1 l2 l3 : List UInt8} {c1 c2 c3 ca i : Nat} {L : Nat → Bool} {vs : Nat → Value}
theorem C3.pure (h : C3 w0 S v0 l0 l1 l2 l3 c1 c2 c3 ca L vs w) (h1 : i ≠ c1) (h2 : i ≠ c2) (h3 : i ≠ c3) (h4 : i ≠ ca) : C3 w0 S v0 l0 l1 l2 l3 c1 c2 c3 ca (Reg.lay L i) (Reg.upd vs i v) w := by
  unfold C3
  rw [lay_ne h1, lay_ne h2, lay_ne h3, lay_ne h4, upd_ne h1, upd_ne h2, upd_ne h3, upd_ne h4]
  exact h
theorem C3.first (h : C3 w0 S v0 l0 l1 l2 l3 c1 c2 c3 ca L vs w) (hn : c1 ≠ c2 ∧ c1 ≠ c3 ∧ c1 ≠ ca) (hL : L c1 = false) (hg : Grew w S l1 (.returned v) w') : C3 w0 S v0 l0 l1 l2 l3 c1 c2 c3 ca (Reg.lay L c1) (Reg.upd vs c1 v) w' := by
  have h2 : L c2 = false := not_up h.2.1 hL
  have h3 : L c3 = false := not_up h.2.2.1 h2
  have h4 : L ca = false := not_up (fun e => (h.2.2.2.1 e).1) h3
  obtain ⟨s1, s2⟩ := St.of_grew h.1 hg
  unfold C3
  rw [lay_eq, lay_ne hn.1, lay_ne hn.2.1, lay_ne hn.2.2, upd_eq, h2, h3, h4]
  exact ⟨s2, fun _ => rfl, fun h => (by cases h), fun h => (by cases h), fun h => (by cases h), fun _ _ => s1, fun h => (by cases h), fun h => (by cases h)⟩
theorem C3.second (h : C3 w0 S v0 l0 l1 l2 l3 c1 c2 c3 ca L vs w) (hn : c2 ≠ c1 ∧ c2 ≠ c3 ∧ c2 ≠ ca) (hL1 : L c1 = true) (hL2 : L c2 = false) {g : Nat} (hg : g ∈ S ∨ w0.heap.size ≤ g) (hgr : Grew w [g] l2 (.returned v) w') : C3 w0 S v0 l0 l1 l2 l3 c1 c2 c3 ca (Reg.lay L c2) (Reg.upd vs c2 v) w' := by
  obtain ⟨s1, s2⟩ := St.next h.1 hg hgr
  have h3 : L c3 = false := not_up h.2.2.1 hL2
  have h4 : L ca = false := not_up (fun e => (h.2.2.2.1 e).1) h3
  unfold C3
  rw [lay_eq, lay_ne hn.1, lay_ne hn.2.1, lay_ne hn.2.2, upd_eq, hL1, h3, h4]
  exact ⟨s2, fun _ => rfl, fun h => (by cases h), fun h => (by cases h), fun h => (by cases h), fun _ h => (by cases h), fun _ _ => s1, fun h => (by cases h)⟩
theorem C3.third (h : C3 w0 S v0 l0 l1 l2 l3 c1 c2 c3 ca L vs w) (hn : c3 ≠ c1 ∧ c3 ≠ c2 ∧ c3 ≠ ca) (hL2 : L c2 = true) (hL3 : L c3 = false) {g : Nat} (hg : g ∈ S ∨ w0.heap.size ≤ g) (hgr : Grew w [g] l3 (.returned v) w') : C3 w0 S v0 l0 l1 l2 l3 c1 c2 c3 ca (Reg.lay L c3) (Reg.upd vs c3 v) w' := by
  obtain ⟨s1, s2⟩ := St.next h.1 hg hgr
  have h4 : L ca = false := not_up (fun e => (h.2.2.2.1 e).1) hL3
  unfold C3
  rw [lay_eq, lay_ne hn.1, lay_ne hn.2.1, lay_ne hn.2.2, upd_eq, hL2, h.2.1 hL2, h4]
  exact ⟨s2, fun _ => rfl, fun _ => rfl, fun h => (by cases h), fun h => (by cases h), fun _ h => (by cases h), fun _ h => (by cases h), fun _ => s1⟩
theorem C3.last (h : C3 w0 S v0 l0 l1 l2 l3 c1 c2 c3 ca L vs w) (hn : ca ≠ c1 ∧ ca ≠ c2 ∧ ca ≠ c3) (hL : L c3 = true) : C3 w0 S v0 l0 l1 l2 l3 c1 c2 c3 ca (Reg.lay L ca) (Reg.upd vs ca (vs c3)) w := by
  unfold C3
  rw [lay_ne hn.1, lay_ne hn.2.1, lay_ne hn.2.2, lay_eq, upd_ne hn.1, upd_ne hn.2.1, upd_ne hn.2.2, upd_eq]
  exact ⟨h.1, h.2.1, h.2.2.1, fun _ => ⟨hL, rfl⟩, h.2.2.2.2⟩
theorem C3.end_ (h : C3 w0 S v0 l0 l1 l2 l3 c1 c2 c3 ca L vs w) (hL : L ca = true) : St w0 S l3 w (vs ca) ∧ Keeps S w0 w := by
  obtain ⟨k, _, _, ka, _, _, _, kl⟩ := h
  obtain ⟨h3, hv⟩ := ka hL
  rw [hv]
  exact ⟨kl h3, k⟩
end

/-- A name and its interval; a summary. -/
structure Nm where
  name : ByteArray
  v : Iv
def encNm (m : Nm) : List UInt8 := encT m.name ++ encIv m.v
def NmsIn (w : World) (h : Nat) (A : Option Addr) (ms : List Nm) : Prop :=
  ms = [] ∨ ∃ off, A = some ⟨h, off, none⟩ ∧ ∀ k (hk : k < ms.length), w.cell? ⟨h, off + k * 4, none⟩ = some (.string ms[k].name) ∧ w.cell? ⟨h, off + k * 4 + 1, none⟩ = some (.bool ms[k].v.some) ∧
    w.cell? ⟨h, off + k * 4 + 2, none⟩ = some (.int .i64 ms[k].v.lo) ∧ w.cell? ⟨h, off + k * 4 + 3, none⟩ = some (.int .i64 ms[k].v.hi)
theorem NmsIn.keep {S : List Nat} {w w' : World} {g : Nat} {A : Option Addr} {l : List Nm} (h : NmsIn w g A l) (hk : Keeps S w w') (hn : g ∉ S) : NmsIn w' g A l := by
  rcases h with h | ⟨off, hA, hc⟩
  · exact .inl h
  · exact .inr ⟨off, hA, fun k hl => ⟨hk.cell_some (hc k hl).1 hn, hk.cell_some (hc k hl).2.1 hn, hk.cell_some (hc k hl).2.2.1 hn, hk.cell_some (hc k hl).2.2.2 hn⟩⟩
structure Sm where
  alarms : List Al
  ends : Bool
  ret : Iv
  mod : List Nm
def Sm.ok (s : Sm) : Prop := (∀ a ∈ s.alarms, a.ok) ∧ s.ret.ok ∧ ∀ m ∈ s.mod, m.v.ok
def Sm.light (s : Sm) : Prop := s.alarms.length ≤ 10 ∧ s.mod.length ≤ 10 ∧ ∀ m ∈ s.mod, m.name.size ≤ 50
def encSm (s : Sm) : List UInt8 := M.enc s.alarms.length ++ s.alarms.flatMap encAl ++ M.encBool s.ends ++ encIv s.ret ++ M.enc s.mod.length ++ s.mod.flatMap encNm
theorem encNm_len {m : Nm} (h1 : m.name.size ≤ 50) (h2 : m.v.ok) : (encNm m).length ≤ 81 := by
  have h3 := encIv_len h2
  have h4 := M.enc_len64 (n := m.name.size) (by omega)
  have h5 : (encT m.name).length = (M.enc m.name.size).length + m.name.size := by
    unfold encT M.encText
    rw [List.length_append, Array.length_toList]
    rfl
  unfold encNm
  rw [List.length_append]; omega
theorem flat_nms_len : ∀ (ms : List Nm), (∀ m ∈ ms, m.name.size ≤ 50 ∧ m.v.ok) → (ms.flatMap encNm).length ≤ 81 * ms.length
  | [], _ => by simp
  | a :: r, h => by
    have h1 := flat_nms_len r (fun m hm => h m (by simp [hm]))
    have h2 := encNm_len (h a (by simp)).1 (h a (by simp)).2
    simp only [List.flatMap_cons, List.length_append, List.length_cons]
    omega

set_option maxHeartbeats 2000000 in
set_option maxRecDepth 100000 in
theorem refSummary_any (w : World) (S : List Nat) (v : Value) (l : List UInt8) (h1 h2 : Nat) (Aa Am : Option Addr) (ca cm : Nat) (s : Sm) (hb : BufAt w S v l) (hra : AlsIn w h1 Aa s.alarms) (hrm : NmsIn w h2 Am s.mod) (hh1 : h1 ∉ S) (hh2 : h2 ∉ S) (hok : s.ok) (hli : s.light) (hl : l.length ≤ 100000000) :
    Calls Try.prog 41 #[v, .agg #[.slice Aa s.alarms.length ca, .bool s.ends, .bool s.ret.some, .int .i64 s.ret.lo, .int .i64 s.ret.hi, .slice Am s.mod.length cm]] w (Grew w S (l ++ encSm s)) := by
  obtain ⟨als, ends, ⟨rs, rlo, rhi⟩, ms⟩ := s
  obtain ⟨ok1, ok2, ok3⟩ := hok
  obtain ⟨li1, li2, li3⟩ := hli
  simp only [] at hra hrm ok1 ok2 ok3 li1 li2 li3
  have HB := Lib.hid hb
  have HS := Lib.hid hb.lt
  have HRA := Lib.hid hra
  have HRM := Lib.hid hrm
  have HOKA := Lib.hid ok1
  have HOKR := Lib.hid ok2
  have HOKM : Hid (∀ m ∈ ms, m.name.size ≤ 50 ∧ m.v.ok) := Lib.hid (fun m hm => ⟨li3 m hm, ok3 m hm⟩)
  have HEL1 := Lib.hid (M.enc_len64 (show als.length < 18446744073709551616 by omega))
  have HEL2 := Lib.hid (M.enc_len64 (show ms.length < 18446744073709551616 by omega))
  have HFA := Lib.hid (flat_als_len als ok1)
  have HRL := Lib.hid (encIv_len ok2)
  clear hb hra hrm ok1 ok2 ok3 li3
  go_enter Try.func41, Try.ntmps41
  go_wp2_with fail
  have hnb : w.heap.size ∉ S := fun hm => by have := HS.out _ hm; omega
  have HNB := Lib.hid hnb
  have hx0 : (w.alloc (.cells #[.slice Aa als.length ca, .bool ends, .bool rs, .int .i64 rlo, .int .i64 rhi, .slice Am ms.length cm] 35)).cell? ⟨w.heap.size, 0, none⟩ = some (.slice Aa als.length ca) := new_cell 0
  have hx1 : (w.alloc (.cells #[.slice Aa als.length ca, .bool ends, .bool rs, .int .i64 rlo, .int .i64 rhi, .slice Am ms.length cm] 35)).cell? ⟨w.heap.size, 1, none⟩ = some (.bool ends) := new_cell 1
  have hx2 : (w.alloc (.cells #[.slice Aa als.length ca, .bool ends, .bool rs, .int .i64 rlo, .int .i64 rhi, .slice Am ms.length cm] 35)).cell? ⟨w.heap.size, 2, none⟩ = some (.bool rs) := new_cell 2
  have hx3 : (w.alloc (.cells #[.slice Aa als.length ca, .bool ends, .bool rs, .int .i64 rlo, .int .i64 rhi, .slice Am ms.length cm] 35)).cell? ⟨w.heap.size, 3, none⟩ = some (.int .i64 rlo) := new_cell 3
  have hx4 : (w.alloc (.cells #[.slice Aa als.length ca, .bool ends, .bool rs, .int .i64 rlo, .int .i64 rhi, .slice Am ms.length cm] 35)).cell? ⟨w.heap.size, 4, none⟩ = some (.int .i64 rhi) := new_cell 4
  have hx5 : (w.alloc (.cells #[.slice Aa als.length ca, .bool ends, .bool rs, .int .i64 rlo, .int .i64 rhi, .slice Am ms.length cm] 35)).cell? ⟨w.heap.size, 5, none⟩ = some (.slice Am ms.length cm) := new_cell 5
  have HX0 := Lib.hid hx0
  have HX1 := Lib.hid hx1
  have HX2 := Lib.hid hx2
  have HX3 := Lib.hid hx3
  have HX4 := Lib.hid hx4
  have HX5 := Lib.hid hx5
  have HKB := Lib.hid ((Keeps.refl S w).alloc (.cells #[.slice Aa als.length ca, .bool ends, .bool rs, .int .i64 rlo, .int .i64 rhi, .slice Am ms.length cm] 35))
  clear hx0 hx1 hx2 hx3 hx4 hx5 hnb
  refine Reg.wp_region_late (A := ?Aa) (B := ?Ba) [0] [10] (C3 (w.alloc (.cells #[.slice Aa als.length ca, .bool ends, .bool rs, .int .i64 rlo, .int .i64 rhi, .slice Am ms.length cm] 35)) S v l (l ++ M.enc als.length ++ als.flatMap encAl) (l ++ M.enc als.length ++ als.flatMap encAl ++ M.encBool ends) (l ++ M.enc als.length ++ als.flatMap encAl ++ M.encBool ends ++ encIv ⟨rs, rlo, rhi⟩) 3 6 9 10) (fun _ _ => True)
    [Is v, Is (.pointer (some ⟨w.heap.size, 0, none⟩)), Is (.slice Aa als.length ca), Any, Is (.pointer (some ⟨w.heap.size, 1, none⟩)), Is (.bool ends), Any, Is (.pointer (some ⟨w.heap.size, 2, none⟩)), Is (.agg #[.bool rs, .int .i64 rlo, .int .i64 rhi]), Any, Any]
    (by kernel_rfl) (by kernel_rfl) rfl ?hAa ?hBa ?hCa ?hoa ?hlasta ?henda
  case hAa => intro vs; simp only [Reg.fill, if_true, Nat.zero_add, Nat.reduceAdd, Act.put, List.setIfInBounds_toArray, List.set_cons_succ, List.set_cons_zero]; exact rfl
  case hBa => intro vs; simp only [Reg.fill, List.contains_cons, List.contains_nil, Nat.zero_add, Nat.reduceAdd, Nat.reduceBEq, Bool.or_false, Bool.not_true, Bool.not_false, if_true, if_false, Bool.false_eq_true, Act.put, List.setIfInBounds_toArray, List.set_cons_succ, List.set_cons_zero]; exact rfl
  case hCa => exact fun vs => ⟨(Keeps.refl _ _).drew, by simp, by simp, by simp, fun _ => HB.out.keep0 (((Keeps.refl [] w).alloc _).drew), by simp, by simp, by simp⟩
  case hlasta => repeat (first | exact trivial | refine ⟨Is.lastU, ?_⟩ | refine ⟨Any.lastU, ?_⟩)
  case hoa =>
    repeat' apply And.intro
    all_goals
      first
        | exact trivial
        | (intro L vs w' hC hL hd ha K hK
           try simp only [Reg.Deps, Reg.at_, List.getD_cons_zero, List.getD_cons_succ, Region.binds, true_implies, Is, and_true] at hd
           try simp only [Reg.Aw, Region.binds, true_implies, and_true] at ha
           have hx0' := hC.1.cell_some HX0.out HNB.out
           have hx1' := hC.1.cell_some HX1.out HNB.out
           have hx2' := hC.1.cell_some HX2.out HNB.out
           have hx3' := hC.1.cell_some HX3.out HNB.out
           have hx4' := hC.1.cell_some HX4.out HNB.out
           go_simp
           first
             | exact hK _ _ (hC.pure (by decide) (by decide) (by decide) (by decide)) trivial rfl
             | skip)
    · refine (refAlarms_any w' S v l h1 Aa als ca (hC.2.2.2.2.1 hL) (HRA.out.keep (HKB.out.trans hC.1 (fun _ h _ => h)) hh1) hh1 HOKA.out (by omega) (by omega)).mono ?_
      rintro e w'' ⟨v2, g2, rfl, q⟩
      exact ⟨_, rfl, hK _ _ (hC.first (by decide) hL ⟨v2, g2, rfl, q⟩) trivial trivial⟩
    · obtain ⟨g3, s1, s2⟩ := hC.2.2.2.2.2.1 ha.1 hL
      refine (refBool_any w' [g3] (vs 3) _ ends s1.buf (by have := HEL1.out; have := HFA.out; simp only [List.length_append]; omega)).mono ?_
      rintro e w'' ⟨v2, g2, rfl, q⟩
      exact ⟨_, rfl, hK _ _ (hC.second (by decide) ha.1 hL s2 ⟨v2, g2, rfl, q⟩) trivial trivial⟩
    · obtain ⟨g3, s1, s2⟩ := hC.2.2.2.2.2.2.1 ha.1 hL
      refine (refIval_any w' [g3] (vs 6) _ ⟨rs, rlo, rhi⟩ s1.buf HOKR.out (by have := HEL1.out; have := HFA.out; simp only [List.length_append, M.encBool, List.length_cons, List.length_nil]; omega)).mono ?_
      rintro e w'' ⟨v2, g2, rfl, q⟩
      exact ⟨_, rfl, hK _ _ (hC.third (by decide) ha.1 hL s2 ⟨v2, g2, rfl, q⟩) trivial trivial⟩
    · exact hK _ _ (hC.last (by decide) ha.1) trivial trivial
  case henda =>
    intro vs w2 hC hall
    obtain ⟨⟨g2, s1, s2⟩, s3⟩ := hC.end_ rfl
    obtain ⟨L2, hL2⟩ : ∃ L2, L2 = l ++ M.enc als.length ++ als.flatMap encAl ++ M.encBool ends ++ encIv ⟨rs, rlo, rhi⟩ := ⟨_, rfl⟩
    rw [← hL2] at s1
    have hlen2 : L2.length ≤ 100000400 := by
      rw [hL2]
      have := HEL1.out; have := HFA.out; have := HRL.out
      simp only [List.length_append, M.encBool, List.length_cons, List.length_nil]
      omega
    have hx5 := s3.cell_some HX5.out HNB.out
    have HS1 := Lib.hid s1
    have HS2 : Hid (g2 ∈ S ∨ w.heap.size < g2) := Lib.hid (s2.imp id (fun h => by simp at h; omega))
    have HS3 : Hid (Keeps S w w2) := Lib.hid (HKB.out.trans s3 (fun _ h _ => h))
    have HL2 := Lib.hid hL2
    clear hC hall s1 s2 s3 hL2
    go_wp2_with fail
    refine (refNum_any w2 [g2] (vs 10) L2 ms.length HS1.out.buf (by omega) (by omega)).mono ?_
    rintro e w3 ⟨v3, g3, rfl, q1, q2, q3⟩
    have HT1 := Lib.hid q1
    have HT2 : Hid (g3 ∈ S ∨ w.heap.size < g3) := Lib.hid (by
      rcases q2 with q2 | q2
      · obtain rfl : g3 = g2 := by simpa using q2
        exact HS2.out
      · exact .inr (by have := World.block_lt_of_cell? w2 _ hx5; simp only [] at this; omega))
    have HT3 : Hid (Keeps S w w3) := Lib.hid (HS3.out.trans q3 (fun x hx hlx => by
      obtain rfl : x = g2 := by simpa using hx
      rcases HS2.out with h | h
      · exact h
      · omega))
    have hbx : w.heap.size < w2.heap.size := World.block_lt_of_cell? w2 _ hx5
    have hbg2 : w.heap.size ∉ [g2] := by
      intro hm
      have hm' : w.heap.size = g2 := by simpa using hm
      rcases HS2.out with h | h
      · exact HNB.out (by rw [hm']; exact h)
      · omega
    have hx6 := q3.cell_some hx5 hbg2
    clear q1 q2 q3 hx5 hbg2 hbx
    go_wp2_with fail
    obtain ⟨L3, hL3⟩ : ∃ L3, L3 = L2 ++ M.enc ms.length := ⟨_, rfl⟩
    rw [← hL3] at HT1
    have hlen3 : L3.length ≤ 100000500 := by rw [hL3, List.length_append]; have := HEL2.out; omega
    have HFIN : Hid (L3 ++ ms.flatMap encNm = l ++ encSm ⟨als, ends, ⟨rs, rlo, rhi⟩, ms⟩) := Lib.hid (by rw [hL3, HL2.out]; simp [encSm])
    clear hL3
    go_loopw [0, 5] (fun b i wr => ∃ k g : Nat, k ≤ ms.length ∧ i = .int .i64 k ∧ OwnAt wr g b (L3 ++ (ms.take k).flatMap encNm) ∧ (g ∈ S ∨ w.heap.size < g) ∧ Keeps S w wr ∧ wr.cell? ⟨w.heap.size, 5, none⟩ = some (.slice Am ms.length cm)) (fun _ i _ => ms.length - (intOf i).toNat)
    case atStart => exact ⟨0, g3, Nat.zero_le _, rfl, by simpa using HT1.out, HT2.out, HT3.out, hx6⟩
    case round =>
      obtain ⟨k, g, hk, rfl, ho, hg, hkp, hx7⟩ := hrel
      clear hx6
      have HO := Lib.hid ho
      have HG := Lib.hid hg
      have HK := Lib.hid hkp
      have HX7 := Lib.hid hx7
      clear ho hg hkp
      by_cases hlt : k < ms.length
      · rcases HRM.out with h0 | ⟨off, rfl, hcell⟩
        · subst h0; simp at hlt
        · have hc := hcell k hlt
          have HE := Lib.hid (flat_next encNm L3 hlt)
          have hmk := HOKM.out _ (List.getElem_mem hlt)
          have hbl : h2 < w.heap.size := World.block_lt_of_cell? w _ hc.1
          obtain ⟨⟨nm, ⟨ns, nlo, nhi⟩⟩, hn2⟩ : ∃ n, n = ms[k] := ⟨_, rfl⟩
          rw [← hn2] at hc hmk HE
          have hc1 := HK.out.cell_some hc.1 hh2
          have hc2 := HK.out.cell_some hc.2.1 hh2
          have hc3 := HK.out.cell_some hc.2.2.1 hh2
          have hc4 := HK.out.cell_some hc.2.2.2 hh2
          obtain ⟨L4, hL4⟩ : ∃ L4, L4 = L3 ++ (ms.take k).flatMap encNm := ⟨_, rfl⟩
          rw [← hL4] at HO HE
          have hlen4 : L4.length ≤ 100002000 := by
            rw [hL4]
            have h1 := flat_nms_len (ms.take k) (fun m hm => HOKM.out m (List.mem_of_mem_take hm))
            simp only [List.length_append]
            simp only [List.length_take] at h1
            omega
          have hhg : h2 ∉ [g] := by
            intro hm
            obtain rfl : h2 = g := by simpa using hm
            rcases HG.out with h1 | h1
            · exact hh2 h1
            · omega
          have hbg : w.heap.size ∉ [g] := by
            intro hm
            have hm' : w.heap.size = g := by simpa using hm
            rcases HG.out with h | h
            · exact HNB.out (by rw [hm']; exact h)
            · omega
          have HHG := Lib.hid hhg
          have HBG := Lib.hid hbg
          have HMK : Hid (nm.size ≤ 50 ∧ Iv.ok ⟨ns, nlo, nhi⟩) := Lib.hid hmk
          have hnm : nm.size ≤ 50 := hmk.1
          have HC1 := Lib.hid hc1
          have HC2 := Lib.hid hc2
          have HC3 := Lib.hid hc3
          have HC4 := Lib.hid hc4
          have HTE := Lib.hid (show (encT nm).length ≤ 60 by
            have h4 := M.enc_len64 (n := nm.size) (by omega)
            have h5 : (encT nm).length = (M.enc nm.size).length + nm.size := by
              unfold encT M.encText
              rw [List.length_append, Array.length_toList]
              rfl
            omega)
          clear hc hcell hn2 hbl hL4 hhg hbg hmk hc1 hc2 hc3 hc4
          go_wp2_with fail
          refine Reg.wp_region_late (A := ?Ab) (B := ?Bb) [0] [15] (C2 wr [g] u0 L4 (L4 ++ encT nm) (L4 ++ encT nm ++ encIv ⟨ns, nlo, nhi⟩) 7 14 15) (fun _ _ => True)
            [Is u0, Is (.pointer (some ⟨w.heap.size, 5, none⟩)), Is (.slice (some ⟨h2, off, none⟩) ms.length cm), Is (.int .i64 (k : Int)), Is (.pointer (some ⟨h2, off + k * 4, none⟩)), Is (.pointer (some ⟨h2, off + k * 4, none⟩)), Is (.string nm), Any, Is (.pointer (some ⟨w.heap.size, 5, none⟩)), Is (.slice (some ⟨h2, off, none⟩) ms.length cm), Is (.int .i64 (k : Int)), Is (.pointer (some ⟨h2, off + k * 4, none⟩)), Is (.pointer (some ⟨h2, off + k * 4 + 1, none⟩)), Is (.agg #[.bool ns, .int .i64 nlo, .int .i64 nhi]), Any, Any]
            (by kernel_rfl) (by kernel_rfl) rfl ?hAb ?hBb ?hCb ?hob ?hlastb ?hendb
          case hAb => intro vs; simp only [Reg.fill, if_true, Nat.zero_add, Nat.reduceAdd, Act.put, List.setIfInBounds_toArray, List.set_cons_succ, List.set_cons_zero]; exact rfl
          case hBb => intro vs; simp only [Reg.fill, List.contains_cons, List.contains_nil, Nat.zero_add, Nat.reduceAdd, Nat.reduceBEq, Bool.or_false, Bool.not_true, Bool.not_false, if_true, if_false, Bool.false_eq_true, Act.put, List.setIfInBounds_toArray, List.set_cons_succ, List.set_cons_zero]; exact rfl
          case hCb => exact fun vs => ⟨(Keeps.refl _ _).drew, by simp, by simp, fun _ => HO.out.buf, by simp, by simp⟩
          case hlastb => repeat (first | exact trivial | refine ⟨Is.lastU, ?_⟩ | refine ⟨Any.lastU, ?_⟩)
          case hob =>
            repeat' apply And.intro
            all_goals
              first
                | exact trivial
                | (intro L vs w' hC hL hd ha K hK
                   try simp only [Reg.Deps, Reg.at_, List.getD_cons_zero, List.getD_cons_succ, Region.binds, true_implies, Is, and_true] at hd
                   try simp only [Reg.Aw, Region.binds, true_implies, and_true] at ha
                   have hc1' := hC.1.cell_some HC1.out HHG.out
                   have hc2' := hC.1.cell_some HC2.out HHG.out
                   have hc3' := hC.1.cell_some HC3.out HHG.out
                   have hc4' := hC.1.cell_some HC4.out HHG.out
                   have hx7' := hC.1.cell_some HX7.out HBG.out
                   go_simp
                   first
                     | exact hK _ _ (hC.pure (by decide) (by decide) (by decide)) trivial rfl
                     | skip)
            · refine (refText_any w' [g] u0 L4 nm (hC.2.2.2.1 hL) (by omega)).mono ?_
              rintro e w'' ⟨v2, g2, rfl, q⟩
              exact ⟨_, rfl, hK _ _ (hC.first (by decide) (by decide) hL ⟨v2, g2, rfl, q⟩) trivial trivial⟩
            · obtain ⟨g3, s1, s2⟩ := hC.2.2.2.2.1 ha.1 hL
              refine (refIval_any w' [g3] (vs 7) _ ⟨ns, nlo, nhi⟩ s1.buf HMK.out.2 (by have := HTE.out; rw [List.length_append]; omega)).mono ?_
              rintro e w'' ⟨v2, g2, rfl, q⟩
              exact ⟨_, rfl, hK _ _ (hC.second (by decide) (by decide) ha.1 hL s2 ⟨v2, g2, rfl, q⟩) trivial trivial⟩
            · exact hK _ _ (hC.last (by decide) (by decide) ha.1) trivial trivial
          case hendb =>
            intro vs w4 hC hall
            obtain ⟨v', g', hv', r1, r2, r3⟩ := hC.grew rfl (show L4 ++ encT nm ++ encIv ⟨ns, nlo, nhi⟩ = L3 ++ (ms.take (k + 1)).flatMap encNm by rw [← HE.out]; simp [encNm]) (.inl (by simp)) (Keeps.refl [g] wr)
            have hx8 := hC.1.cell_some HX7.out HBG.out
            have HR1 := Lib.hid r1
            have HR2 : Hid (g' ∈ S ∨ w.heap.size < g') := Lib.hid (by
              rcases r2 with r2 | r2
              · obtain rfl : g' = g := by simpa using r2
                exact HG.out
              · have h9 := World.block_lt_of_cell? wr _ HX7.out; simp only [] at h9; exact .inr (by omega))
            have HR3 : Hid (Keeps S w w4) := Lib.hid (HK.out.trans r3 (fun x hx hlx => by
              obtain rfl : x = g := by simpa using hx
              rcases HG.out with h | h
              · exact h
              · omega))
            have HV' : Hid (v' = vs 15) := Lib.hid (by cases hv'; rfl)
            clear hC hall hv' r1 r2 r3 hx7
            go_wp2
            go_roundw
            case rel => exact ⟨k + 1, g', by omega, by go_num, by rw [← HV'.out]; exact HR1.out, HR2.out, HR3.out, hx8⟩
            case measure => simp [intOf]; omega
      · have HD := Lib.hid (show OwnAt wr g u0 (l ++ encSm ⟨als, ends, ⟨rs, rlo, rhi⟩, ms⟩) by have := HO.out; rwa [List.take_of_length_le (by omega), HFIN.out] at this)
        go_wp2
        go_ret
        exact ⟨_, g, rfl, HD.out, HG.out.imp id (fun h => by omega), HK.out⟩
end Go.Proofs.Ytohmadfaaonaaaa
