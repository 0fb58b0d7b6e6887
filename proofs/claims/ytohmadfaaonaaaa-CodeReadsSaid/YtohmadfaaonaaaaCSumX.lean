/- The walk of the writer's Summary, of one summary. -/
import Derived.Test.YtohmadfaaonaaaaCSumW
namespace Go.Proofs.Ytohmadfaaonaaaa
open Go.RowKit
open Reg (Is Fact)

/-- Within Summary: the writer has L; the box of the summary, behind w, has the cells cs. -/
def SW (w wk : World) (p g gk : Nat) (L : List UInt8) (cs : Array Value) : Prop :=
  WrAt wk p gk L ∧ (gk = g ∨ w.heap.size < gk) ∧ Keeps [p, g] w wk ∧ (∀ j u, cs[j]? = some u → wk.cell? ⟨w.heap.size, j, none⟩ = some u) ∧ w.heap.size < wk.heap.size ∧ p < w.heap.size ∧ g < w.heap.size
section
variable {w wk w' : World} {p g gk : Nat} {L L' : List UInt8} {cs : Array Value}
theorem SW.start {t : TypeId} (h : WrAt w p g L) : SW w (w.alloc (.cells cs t)) p g g L cs :=
  ⟨h.keep ((Keeps.refl [] w).alloc _) (by simp) (by simp), .inl rfl, (Keeps.refl _ _).alloc _, fun j u hu => by rw [new_cell j]; exact hu, by simp, h.lt.1, h.lt.2⟩
theorem SW.notin (h : SW w wk p g gk L cs) : w.heap.size ∉ [p, gk] := by
  obtain ⟨_, h2, _, _, _, h6, h7⟩ := h
  simp; omega
theorem SW.cell (h : SW w wk p g gk L cs) (j : Nat) (u : Value) (hu : cs[j]? = some u) : wk.cell? ⟨w.heap.size, j, none⟩ = some u := h.2.2.2.1 j u hu
theorem SW.step (h : SW w wk p g gk L cs) (hu : ∃ g', WrAt w' p g' L' ∧ (g' = gk ∨ wk.heap.size ≤ g') ∧ Keeps [p, gk] wk w') : ∃ g', SW w w' p g g' L' cs := by
  have hn := h.notin
  obtain ⟨h1, h2, h3, h4, h5, h6, h7⟩ := h
  obtain ⟨g', u1, u2, u3⟩ := hu
  have hs := u3.size
  refine ⟨g', u1, by omega, h3.trans u3 (fun i hi hl => ?_), fun j u hj => u3.cell_some (h4 j u hj) hn, by omega, h6, h7⟩
  simp at hi ⊢
  omega
theorem SW.keep (h : SW w wk p g gk L cs) (hk : Keeps [] wk w') : SW w w' p g gk L cs := by
  obtain ⟨h1, h2, h3, h4, h5, h6, h7⟩ := h
  exact ⟨h1.keep hk (by simp) (by simp), h2, h3.trans hk (by simp), fun j u hj => hk.cell_some (h4 j u hj) (by simp), Nat.lt_of_lt_of_le h5 hk.size, h6, h7⟩
theorem SW.wrote (h : SW w wk p g gk L cs) : WroteU w p g L wk := ⟨gk, h.1, h.2.1.imp id (fun h => by omega), h.2.2.1⟩
end

attribute [local go_sem] Reg.wantedV Reg.gives_value Reg.gives_skip Reg.gives_enter
set_option maxHeartbeats 8000000 in
set_option maxRecDepth 100000 in
theorem sum_any (w : World) (p g x h1 h2 : Nat) (l : List UInt8) (Aa Am : Option Addr) (ca cm : Nat) (s : Sm) (hw : WrAt w p g l)
    (hr : ∀ j u, (#[.slice Aa s.alarms.length ca, .bool s.ends, .bool s.ret.some, .int .i64 s.ret.lo, .int .i64 s.ret.hi, .slice Am s.mod.length cm] : Array Value)[j]? = some u → w.cell? ⟨x, j, none⟩ = some u)
    (hra : AlsIn w h1 Aa s.alarms) (hrm : NmsIn w h2 Am s.mod) (ha1 : h1 ∉ [p, g]) (hm1 : h2 ∉ [p, g]) (hok : s.ok) (hli : s.light) (hl : l.length ≤ 100000000) :
    Calls Try.prog 17 #[.pointer (some ⟨p, 0, none⟩), .slice (some ⟨x, 0, none⟩) 1 1] w (Wrote w p g (l ++ encSm s)) := by
  obtain ⟨als, ends, ⟨rs, rlo, rhi⟩, ms⟩ := s
  obtain ⟨ok1, ok2, ok3⟩ := hok
  obtain ⟨li1, li2, li3⟩ := hli
  simp only [] at hra hrm ok1 ok2 ok3 li1 li2 li3
  have HW := Lib.hid hw
  have HRA := Lib.hid hra
  have HRM := Lib.hid hrm
  have HOKA := Lib.hid ok1
  have HOKR := Lib.hid ok2
  have HOKM : Hid (∀ m ∈ ms, m.name.size ≤ 50 ∧ m.v.ok) := Lib.hid (fun m hm => ⟨li3 m hm, ok3 m hm⟩)
  have HA1 := Lib.hid ha1
  have HM1 := Lib.hid hm1
  have hc0 : w.cell? ⟨x, 0, none⟩ = some (.slice Aa als.length ca) := hr 0 _ rfl
  have hc1 : w.cell? ⟨x, 1, none⟩ = some (.bool ends) := hr 1 _ rfl
  have hc2 : w.cell? ⟨x, 2, none⟩ = some (.bool rs) := hr 2 _ rfl
  have hc3 : w.cell? ⟨x, 3, none⟩ = some (.int .i64 rlo) := hr 3 _ rfl
  have hc4 : w.cell? ⟨x, 4, none⟩ = some (.int .i64 rhi) := hr 4 _ rfl
  have hc5 : w.cell? ⟨x, 5, none⟩ = some (.slice Am ms.length cm) := hr 5 _ rfl
  have hwl : IntKind.u64.wrap ((als.length : Nat) : Int) = (als.length : Int) := by rw [IntKind.wrap_u64]; omega
  have hwm : IntKind.u64.wrap ((ms.length : Nat) : Int) = (ms.length : Int) := by rw [IntKind.wrap_u64]; omega
  clear hw hra hrm ok1 ok2 ok3 li3 ha1 hm1 hr
  go_enter Try.func17, Try.ntmps17
  go_wp2
  go_loopw [12] (fun i wr => (i = .int .i64 0 ∧ wr = w) ∨ (i = .int .i64 1 ∧ WroteU w p g (l ++ encSm ⟨als, ends, ⟨rs, rlo, rhi⟩, ms⟩) wr)) (fun i _ => 1 - (intOf i).toNat)
  case atStart => exact .inl ⟨rfl, rfl⟩
  case round =>
    rcases hrel with ⟨rfl, rfl⟩ | ⟨rfl, hwrote⟩
    · go_wp2_with fail
      have HSWa : Hid (SW wr (wr.alloc (.cells #[.slice Aa als.length ca, .bool ends, .bool rs, .int .i64 rlo, .int .i64 rhi, .slice Am ms.length cm] 35)) p g g l #[.slice Aa als.length ca, .bool ends, .bool rs, .int .i64 rlo, .int .i64 rhi, .slice Am ms.length cm]) := Lib.hid (SW.start HW.out)
      have HXa := Lib.hid (HSWa.out.cell 0 (.slice Aa als.length ca) rfl)
      have HNBa := Lib.hid HSWa.out.notin
      clear hc0 hc1 hc2 hc3 hc4 hc5
      refine Reg.wp_region_state (A := ?Aa) (CK 8 (wr.alloc (.cells #[.slice Aa als.length ca, .bool ends, .bool rs, .int .i64 rlo, .int .i64 rhi, .slice Am ms.length cm] 35)) p g (l ++ M.enc als.length)) (GK p g)
        [Is (.pointer (some ⟨p, 0, none⟩)), Is (.pointer (some ⟨p, 0, none⟩)), Is (.pointer (some ⟨p, 0, none⟩)), Is (.pointer (some ⟨wr.heap.size, 0, none⟩)), Is (.slice Aa als.length ca), Is (.int .i64 (als.length : Int)), Is (.int .u64 (als.length : Int)), RowF p g 1 #[.int .u64 (als.length : Int)], Is (.tuple #[])]
        (by kernel_rfl) (by kernel_rfl) rfl ?hAa ?hCa ?hoa ?hlasta ?henda
      case hAa => intro vs; simp only [Reg.fill, if_true, Nat.zero_add, Nat.reduceAdd, Act.put, List.setIfInBounds_toArray, List.set_cons_succ, List.set_cons_zero]; exact rfl
      case hCa => exact CK.start (n := 9) (by decide)
      case hlasta => repeat (first | exact trivial | refine ⟨Is.lastK, ?_⟩ | refine ⟨RowF.last, ?_⟩)
      case hoa =>
        repeat' apply And.intro
        all_goals
          first
            | exact trivial
            | (intro L vs w' hC hL hd K hK
               try simp only [Reg.Deps, Reg.at_, List.getD_cons_zero, List.getD_cons_succ, Region.binds, true_implies, Is, and_true] at hd
               have k_HXa := hC.1.cell_some HXa.out HNBa.out
               go_simp
               first
                 | exact hK _ _ (hC.lay (by decide) (Keeps.refl _ _)) (GK.same _ _ _) rfl
                 | skip)
        · exact hK _ _ (hC.lay (by decide) ((Keeps.refl _ _).alloc _)) (GK.of ((Keeps.refl _ _).alloc _)) (RowF.new HSWa.out.1.lt hC.1.size)
        · obtain ⟨-, x', hx, hxb, hx1, hx2⟩ := hd
          rw [hx]
          have hk8 := hC.2.1 hL
          refine (num_any w' p g x' l (some ⟨x', 0, none⟩) [als.length] 1 (HSWa.out.1.keep hk8 (by simp) (by simp)) (RowF.cells (q := p) (h := g) (n := 1) hxb rfl) hx1 hx2 (by simp; omega) (by simp; omega)).mono ?_
          rintro e w'' ⟨rfl, h', q1, q2, q3⟩
          exact ⟨_, rfl, hK _ _ (CK.done hk8 (by simpa using q1) q2 q3) q3 rfl⟩
      case henda =>
        intro vs w2a hC hall
        obtain ⟨g2a, hsw⟩ := HSWa.out.step (hC.2.2 rfl)
        obtain ⟨L1, hL1⟩ : ∃ L1, L1 = l ++ M.enc als.length := ⟨_, rfl⟩
        rw [← hL1] at hsw
        have hlen1 : L1.length ≤ 100000100 := by rw [hL1, List.length_append]; have := M.enc_len64 (n := als.length) (by omega); omega
        have HL1 := Lib.hid hL1
        have hx0 := hsw.cell 0 (.slice Aa als.length ca) rfl
        have HSW1 := Lib.hid hsw
        clear hC hall hsw hL1
        go_wp2_with fail
        obtain ⟨wy, rfl⟩ : ∃ wy : World, wy = wr := ⟨_, rfl⟩
        go_loopw [28] (fun i wk => ∃ k gk : Nat, k ≤ als.length ∧ i = .int .i64 k ∧ SW wy wk p g gk (L1 ++ (als.take k).flatMap encAl) #[.slice Aa als.length ca, .bool ends, .bool rs, .int .i64 rlo, .int .i64 rhi, .slice Am ms.length cm]) (fun i _ => als.length - (intOf i).toNat)
        case atStart => exact ⟨0, g2a, Nat.zero_le _, rfl, by simpa using HSW1.out⟩
        case round =>
          obtain ⟨wk, rfl⟩ : ∃ wk : World, wk = wr := ⟨_, rfl⟩
          obtain ⟨wr, rfl⟩ : ∃ wr : World, wr = wy := ⟨_, rfl⟩
          obtain ⟨k, gk, hk, rfl, hsw⟩ := hrel
          have HSW := Lib.hid hsw
          clear hsw
          by_cases hlt : k < als.length
          · rcases HRA.out with h0 | ⟨off, rfl, hcell⟩
            · subst h0; simp at hlt
            · have hc := hcell k hlt
              have HE := Lib.hid (flat_next encAl L1 hlt)
              have hmk := HOKA.out _ (List.getElem_mem hlt)
              obtain ⟨⟨po, ki⟩, hn2⟩ : ∃ n, n = als[k] := ⟨_, rfl⟩
              rw [← hn2] at hc hmk HE
              have ha1 := HSW.out.2.2.1.cell_some hc.1 HA1.out
              have ha2 := HSW.out.2.2.1.cell_some hc.2 HA1.out
              obtain ⟨L7, hL7⟩ : ∃ L7, L7 = L1 ++ (als.take k).flatMap encAl := ⟨_, rfl⟩
              rw [← hL7] at HSW HE
              have hlen7 : L7.length ≤ 100000400 := by
                rw [hL7]
                have h1 := flat_als_len (als.take k) (fun m hm => HOKA.out m (List.mem_of_mem_take hm))
                simp only [List.length_append]
                simp only [List.length_take] at h1
                omega
              have HKI : Hid (Wide po ∧ Wide ki) := Lib.hid hmk
              have HNY : Hid (wk.heap.size ∉ [p, gk]) := Lib.hid (by have := HSW.out.1.lt; simp; omega)
              have HSWb := Lib.hid (HSW.out.keep ((Keeps.refl [] wk).alloc (.cells #[.int .i64 po, .int .i64 ki] 66)))
              have HY0 : Hid ((wk.alloc (.cells #[.int .i64 po, .int .i64 ki] 66)).cell? ⟨wk.heap.size, 0, none⟩ = some (.int .i64 po)) := Lib.hid (new_cell 0)
              have HY1 : Hid ((wk.alloc (.cells #[.int .i64 po, .int .i64 ki] 66)).cell? ⟨wk.heap.size, 1, none⟩ = some (.int .i64 ki)) := Lib.hid (new_cell 1)
              clear hc hcell hn2 hL7 hmk
              go_wp2_with fail
              refine Reg.wp_region_state (A := ?Ab) (CK 8 (wk.alloc (.cells #[.int .i64 po, .int .i64 ki] 66)) p gk (L7 ++ (encInt po ++ encInt ki))) (GK p gk)
                [Is (.pointer (some ⟨p, 0, none⟩)), Is (.pointer (some ⟨p, 0, none⟩)), Is (.pointer (some ⟨p, 0, none⟩)), Is (.pointer (some ⟨wk.heap.size, 0, none⟩)), Is (.int .i64 po), Is (.pointer (some ⟨wk.heap.size, 1, none⟩)), Is (.int .i64 ki), RowF p gk 2 #[.int .i64 po, .int .i64 ki], Is (.tuple #[])]
                (by kernel_rfl) (by kernel_rfl) rfl ?hAb ?hCb ?hob ?hlastb ?hendb
              case hAb => intro vs; simp only [Reg.fill, if_true, Nat.zero_add, Nat.reduceAdd, Act.put, List.setIfInBounds_toArray, List.set_cons_succ, List.set_cons_zero]; exact rfl
              case hCb => exact CK.start (n := 9) (by decide)
              case hlastb => repeat (first | exact trivial | refine ⟨Is.lastK, ?_⟩ | refine ⟨RowF.last, ?_⟩)
              case hob =>
                repeat' apply And.intro
                all_goals
                  first
                    | exact trivial
                    | (intro L vs w' hC hL hd K hK
                       try simp only [Reg.Deps, Reg.at_, List.getD_cons_zero, List.getD_cons_succ, Region.binds, true_implies, Is, and_true] at hd
                       have k_HY0 := hC.1.cell_some HY0.out HNY.out
                       have k_HY1 := hC.1.cell_some HY1.out HNY.out
                       go_simp
                       first
                         | exact hK _ _ (hC.lay (by decide) (Keeps.refl _ _)) (GK.same _ _ _) rfl
                         | skip)
                · exact hK _ _ (hC.lay (by decide) ((Keeps.refl _ _).alloc _)) (GK.of ((Keeps.refl _ _).alloc _)) (RowF.new HSWb.out.1.lt hC.1.size)
                · obtain ⟨-, x', hx, hxb, hx1, hx2⟩ := hd
                  rw [hx]
                  have hk8 := hC.2.1 hL
                  refine (int_any w' p gk x' L7 (some ⟨x', 0, none⟩) [po, ki] 2 (HSWb.out.1.keep hk8 (by simp) (by simp)) (RowF.cells (q := p) (h := gk) (n := 2) hxb rfl) hx1 hx2 (by have := HKI.out; simpa using this) (by simp; omega)).mono ?_
                  rintro e w'' ⟨rfl, h', q1, q2, q3⟩
                  exact ⟨_, rfl, hK _ _ (CK.done hk8 (by simpa using q1) q2 q3) q3 rfl⟩
              case hendb =>
                intro vs w2b hC hall
                obtain ⟨g2b, hsw⟩ := HSWb.out.step (hC.2.2 rfl)
                rw [show L7 ++ (encInt po ++ encInt ki) = L1 ++ (als.take (k + 1)).flatMap encAl by rw [← HE.out]; rfl] at hsw
                have HR := Lib.hid hsw
                clear hC hall hsw
                go_wp2
                go_roundw
                case rel => exact ⟨k + 1, g2b, by omega, by go_num, HR.out⟩
                case measure => simp [intOf]; omega
          · obtain ⟨L3, hL3⟩ : ∃ L3, L3 = L1 ++ als.flatMap encAl := ⟨_, rfl⟩
            have hsw := HSW.out
            rw [List.take_of_length_le (by omega), ← hL3] at hsw
            have hlen3 : L3.length ≤ 100000500 := by
              rw [hL3, List.length_append]
              have := flat_als_len als HOKA.out
              omega
            have HL3 : Hid (L3 = l ++ M.enc als.length ++ als.flatMap encAl) := Lib.hid (by rw [hL3, HL1.out])
            have HXc := Lib.hid (hsw.cell 1 (.bool ends) rfl)
            have HNBc := Lib.hid hsw.notin
            have HSWc := Lib.hid hsw
            clear hsw hL3 HSW
            go_wp2_with fail
            refine Reg.wp_region_state (A := ?Ac) (CK 6 wk p gk (L3 ++ M.encBool ends)) (GK p gk)
              [Is (.pointer (some ⟨p, 0, none⟩)), Is (.pointer (some ⟨p, 0, none⟩)), Is (.pointer (some ⟨p, 0, none⟩)), Is (.pointer (some ⟨wr.heap.size, 1, none⟩)), Is (.bool ends), RowF p gk 1 #[.bool ends], Is (.tuple #[])]
              (by kernel_rfl) (by kernel_rfl) rfl ?hAc ?hCc ?hoc ?hlastc ?hendc
            case hAc => intro vs; simp only [Reg.fill, if_true, Nat.zero_add, Nat.reduceAdd, Act.put, List.setIfInBounds_toArray, List.set_cons_succ, List.set_cons_zero]; exact rfl
            case hCc => exact CK.start (n := 7) (by decide)
            case hlastc => repeat (first | exact trivial | refine ⟨Is.lastK, ?_⟩ | refine ⟨RowF.last, ?_⟩)
            case hoc =>
              repeat' apply And.intro
              all_goals
                first
                  | exact trivial
                  | (intro L vs w' hC hL hd K hK
                     try simp only [Reg.Deps, Reg.at_, List.getD_cons_zero, List.getD_cons_succ, Region.binds, true_implies, Is, and_true] at hd
                     have k_HXc := hC.1.cell_some HXc.out HNBc.out
                     go_simp
                     first
                       | exact hK _ _ (hC.lay (by decide) (Keeps.refl _ _)) (GK.same _ _ _) rfl
                       | skip)
              · exact hK _ _ (hC.lay (by decide) ((Keeps.refl _ _).alloc _)) (GK.of ((Keeps.refl _ _).alloc _)) (RowF.new HSWc.out.1.lt hC.1.size)
              · obtain ⟨-, x', hx, hxb, hx1, hx2⟩ := hd
                rw [hx]
                have hk8 := hC.2.1 hL
                refine (bool_any w' p gk x' L3 (some ⟨x', 0, none⟩) [ends] 1 (HSWc.out.1.keep hk8 (by simp) (by simp)) (RowF.cells (q := p) (h := gk) (n := 1) hxb rfl) hx1 hx2 (by simp; omega)).mono ?_
                rintro e w'' ⟨rfl, h', q1, q2, q3⟩
                exact ⟨_, rfl, hK _ _ (CK.done hk8 (by simpa using q1) q2 q3) q3 rfl⟩
            case hendc =>
              intro vs w2c hC hall
              obtain ⟨g2c, hsw⟩ := HSWc.out.step (hC.2.2 rfl)
              have hx2 := hsw.cell 2 (.bool rs) rfl
              have hx3 := hsw.cell 3 (.int .i64 rlo) rfl
              have hx4 := hsw.cell 4 (.int .i64 rhi) rfl
              have HSWd := Lib.hid hsw
              clear hC hall hsw
              go_wp2_with fail
              refine (ival_any w2c p g2c (L3 ++ M.encBool ends) ⟨rs, rlo, rhi⟩ HSWd.out.1 HOKR.out (by simp only [List.length_append, M.encBool, List.length_cons, List.length_nil]; omega)).mono ?_
              rintro e w4 ⟨rfl, hu⟩
              obtain ⟨g4, hsw⟩ := HSWd.out.step hu
              obtain ⟨L5, hL5⟩ : ∃ L5, L5 = L3 ++ M.encBool ends ++ encIv ⟨rs, rlo, rhi⟩ := ⟨_, rfl⟩
              rw [← hL5] at hsw
              have hlen5 : L5.length ≤ 100000900 := by
                rw [hL5]
                have := encIv_len HOKR.out
                simp only [List.length_append, M.encBool, List.length_cons, List.length_nil]
                omega
              have HL5 : Hid (L5 = l ++ M.enc als.length ++ als.flatMap encAl ++ M.encBool ends ++ encIv ⟨rs, rlo, rhi⟩) := Lib.hid (by rw [hL5, HL3.out])
              have HXe := Lib.hid (hsw.cell 5 (.slice Am ms.length cm) rfl)
              have HNBe := Lib.hid hsw.notin
              have HSWe := Lib.hid hsw
              clear hu hsw hL5 hx2 hx3 hx4
              go_wp2_with fail
              refine Reg.wp_region_state (A := ?Ae) (CK 8 w4 p g4 (L5 ++ M.enc ms.length)) (GK p g4)
                [Is (.pointer (some ⟨p, 0, none⟩)), Is (.pointer (some ⟨p, 0, none⟩)), Is (.pointer (some ⟨p, 0, none⟩)), Is (.pointer (some ⟨wr.heap.size, 5, none⟩)), Is (.slice Am ms.length cm), Is (.int .i64 (ms.length : Int)), Is (.int .u64 (ms.length : Int)), RowF p g4 1 #[.int .u64 (ms.length : Int)], Is (.tuple #[])]
                (by kernel_rfl) (by kernel_rfl) rfl ?hAe ?hCe ?hoe ?hlaste ?hende
              case hAe => intro vs; simp only [Reg.fill, if_true, Nat.zero_add, Nat.reduceAdd, Act.put, List.setIfInBounds_toArray, List.set_cons_succ, List.set_cons_zero]; exact rfl
              case hCe => exact CK.start (n := 9) (by decide)
              case hlaste => repeat (first | exact trivial | refine ⟨Is.lastK, ?_⟩ | refine ⟨RowF.last, ?_⟩)
              case hoe =>
                repeat' apply And.intro
                all_goals
                  first
                    | exact trivial
                    | (intro L vs w' hC hL hd K hK
                       try simp only [Reg.Deps, Reg.at_, List.getD_cons_zero, List.getD_cons_succ, Region.binds, true_implies, Is, and_true] at hd
                       have k_HXe := hC.1.cell_some HXe.out HNBe.out
                       go_simp
                       first
                         | exact hK _ _ (hC.lay (by decide) (Keeps.refl _ _)) (GK.same _ _ _) rfl
                         | skip)
                · exact hK _ _ (hC.lay (by decide) ((Keeps.refl _ _).alloc _)) (GK.of ((Keeps.refl _ _).alloc _)) (RowF.new HSWe.out.1.lt hC.1.size)
                · obtain ⟨-, x', hx, hxb, hx1, hx2⟩ := hd
                  rw [hx]
                  have hk8 := hC.2.1 hL
                  refine (num_any w' p g4 x' L5 (some ⟨x', 0, none⟩) [ms.length] 1 (HSWe.out.1.keep hk8 (by simp) (by simp)) (RowF.cells (q := p) (h := g4) (n := 1) hxb rfl) hx1 hx2 (by simp; omega) (by simp; omega)).mono ?_
                  rintro e w'' ⟨rfl, h', q1, q2, q3⟩
                  exact ⟨_, rfl, hK _ _ (CK.done hk8 (by simpa using q1) q2 q3) q3 rfl⟩
              case hende =>
                intro vs w2e hC hall
                obtain ⟨g2e, hsw⟩ := HSWe.out.step (hC.2.2 rfl)
                obtain ⟨L6, hL6⟩ : ∃ L6, L6 = L5 ++ M.enc ms.length := ⟨_, rfl⟩
                rw [← hL6] at hsw
                have hlen6 : L6.length ≤ 100001000 := by rw [hL6, List.length_append]; have := M.enc_len64 (n := ms.length) (by omega); omega
                have HFIN : Hid (L6 ++ ms.flatMap encNm = l ++ encSm ⟨als, ends, ⟨rs, rlo, rhi⟩, ms⟩) := Lib.hid (by rw [hL6, HL5.out]; simp [encSm])
                have hx5 := hsw.cell 5 (.slice Am ms.length cm) rfl
                have HSWi := Lib.hid hsw
                clear hC hall hsw hL6
                go_wp2_with fail
                obtain ⟨wy, rfl⟩ : ∃ wy : World, wy = wr := ⟨_, rfl⟩
                go_loopw [65] (fun i wz => ∃ k gk : Nat, k ≤ ms.length ∧ i = .int .i64 k ∧ SW wy wz p g gk (L6 ++ (ms.take k).flatMap encNm) #[.slice Aa als.length ca, .bool ends, .bool rs, .int .i64 rlo, .int .i64 rhi, .slice Am ms.length cm]) (fun i _ => ms.length - (intOf i).toNat)
                case atStart => exact ⟨0, g2e, Nat.zero_le _, rfl, by simpa using HSWi.out⟩
                case round =>
                  obtain ⟨wz, rfl⟩ : ∃ wz : World, wz = wr := ⟨_, rfl⟩
                  obtain ⟨wr, rfl⟩ : ∃ wr : World, wr = wy := ⟨_, rfl⟩
                  obtain ⟨k, gk, hk, rfl, hsw⟩ := hrel
                  have HSW := Lib.hid hsw
                  clear hsw
                  by_cases hlt : k < ms.length
                  · rcases HRM.out with h0 | ⟨off, rfl, hcell⟩
                    · subst h0; simp at hlt
                    · have hc := hcell k hlt
                      have HE := Lib.hid (flat_next encNm L6 hlt)
                      have hmk := HOKM.out _ (List.getElem_mem hlt)
                      obtain ⟨⟨nm, ⟨ns, nlo, nhi⟩⟩, hn2⟩ : ∃ n, n = ms[k] := ⟨_, rfl⟩
                      rw [← hn2] at hc hmk HE
                      have ha1 := HSW.out.2.2.1.cell_some hc.1 HM1.out
                      have ha2 := HSW.out.2.2.1.cell_some hc.2.1 HM1.out
                      have ha3 := HSW.out.2.2.1.cell_some hc.2.2.1 HM1.out
                      have ha4 := HSW.out.2.2.1.cell_some hc.2.2.2 HM1.out
                      obtain ⟨L9, hL9⟩ : ∃ L9, L9 = L6 ++ (ms.take k).flatMap encNm := ⟨_, rfl⟩
                      rw [← hL9] at HSW HE
                      have hlen9 : L9.length ≤ 100003000 := by
                        rw [hL9]
                        have h1 := flat_nms_len (ms.take k) (fun m hm => HOKM.out m (List.mem_of_mem_take hm))
                        simp only [List.length_append]
                        simp only [List.length_take] at h1
                        omega
                      have HMK : Hid (nm.size ≤ 50 ∧ Iv.ok ⟨ns, nlo, nhi⟩) := Lib.hid hmk
                      have hnm : nm.size ≤ 50 := hmk.1
                      have HTE := Lib.hid (show (encT nm).length ≤ 60 by
                        have h4 := M.enc_len64 (n := nm.size) (by omega)
                        have h5 : (encT nm).length = (M.enc nm.size).length + nm.size := by
                          unfold encT M.encText
                          rw [List.length_append, Array.length_toList]
                          rfl
                        omega)
                      have HNY : Hid (wz.heap.size ∉ [p, gk]) := Lib.hid (by have := HSW.out.1.lt; simp; omega)
                      have HSWf := Lib.hid (HSW.out.keep ((Keeps.refl [] wz).alloc (.cells #[.string nm, .bool ns, .int .i64 nlo, .int .i64 nhi] 87)))
                      have HY0 : Hid ((wz.alloc (.cells #[.string nm, .bool ns, .int .i64 nlo, .int .i64 nhi] 87)).cell? ⟨wz.heap.size, 0, none⟩ = some (.string nm)) := Lib.hid (new_cell 0)
                      have HY1 : Hid ((wz.alloc (.cells #[.string nm, .bool ns, .int .i64 nlo, .int .i64 nhi] 87)).cell? ⟨wz.heap.size, 1, none⟩ = some (.bool ns)) := Lib.hid (new_cell 1)
                      have HY2 : Hid ((wz.alloc (.cells #[.string nm, .bool ns, .int .i64 nlo, .int .i64 nhi] 87)).cell? ⟨wz.heap.size, 2, none⟩ = some (.int .i64 nlo)) := Lib.hid (new_cell 2)
                      have HY3 : Hid ((wz.alloc (.cells #[.string nm, .bool ns, .int .i64 nlo, .int .i64 nhi] 87)).cell? ⟨wz.heap.size, 3, none⟩ = some (.int .i64 nhi)) := Lib.hid (new_cell 3)
                      clear hc hcell hn2 hL9 hmk
                      go_wp2_with fail
                      refine Reg.wp_region_state (A := ?Af) (CK 6 (wz.alloc (.cells #[.string nm, .bool ns, .int .i64 nlo, .int .i64 nhi] 87)) p gk (L9 ++ encT nm)) (GK p gk)
                        [Is (.pointer (some ⟨p, 0, none⟩)), Is (.pointer (some ⟨p, 0, none⟩)), Is (.pointer (some ⟨p, 0, none⟩)), Is (.pointer (some ⟨wz.heap.size, 0, none⟩)), Is (.string nm), RowF p gk 1 #[.string nm], Is (.tuple #[])]
                        (by kernel_rfl) (by kernel_rfl) rfl ?hAf ?hCf ?hof ?hlastf ?hendf
                      case hAf => intro vs; simp only [Reg.fill, if_true, Nat.zero_add, Nat.reduceAdd, Act.put, List.setIfInBounds_toArray, List.set_cons_succ, List.set_cons_zero]; exact rfl
                      case hCf => exact CK.start (n := 7) (by decide)
                      case hlastf => repeat (first | exact trivial | refine ⟨Is.lastK, ?_⟩ | refine ⟨RowF.last, ?_⟩)
                      case hof =>
                        repeat' apply And.intro
                        all_goals
                          first
                            | exact trivial
                            | (intro L vs w' hC hL hd K hK
                               try simp only [Reg.Deps, Reg.at_, List.getD_cons_zero, List.getD_cons_succ, Region.binds, true_implies, Is, and_true] at hd
                               have k_HY0 := hC.1.cell_some HY0.out HNY.out
                               go_simp
                               first
                                 | exact hK _ _ (hC.lay (by decide) (Keeps.refl _ _)) (GK.same _ _ _) rfl
                                 | skip)
                        · exact hK _ _ (hC.lay (by decide) ((Keeps.refl _ _).alloc _)) (GK.of ((Keeps.refl _ _).alloc _)) (RowF.new HSWf.out.1.lt hC.1.size)
                        · obtain ⟨-, x', hx, hxb, hx1, hx2⟩ := hd
                          rw [hx]
                          have hk8 := hC.2.1 hL
                          refine (text_any w' p gk x' L9 (some ⟨x', 0, none⟩) [nm] 1 (HSWf.out.1.keep hk8 (by simp) (by simp)) (RowF.cells (q := p) (h := gk) (n := 1) hxb rfl) hx1 hx2 (by simp) (by have := HTE.out; simp only [List.flatMap_cons, List.flatMap_nil, List.append_nil]; omega)).mono ?_
                          rintro e w'' ⟨rfl, h', q1, q2, q3⟩
                          exact ⟨_, rfl, hK _ _ (CK.done hk8 (by simpa using q1) q2 q3) q3 rfl⟩
                      case hendf =>
                        intro vs w2f hC hall
                        obtain ⟨g2f, hsw⟩ := HSWf.out.step (hC.2.2 rfl)
                        have hny2 : wz.heap.size ∉ [p, gk] := HNY.out
                        have hcq := (hC.2.2 rfl)
                        obtain ⟨g9, z1, z2, z3⟩ := hcq
                        have hy1' := z3.cell_some HY1.out HNY.out
                        have hy2' := z3.cell_some HY2.out HNY.out
                        have hy3' := z3.cell_some HY3.out HNY.out
                        have HSWg := Lib.hid hsw
                        clear hC hall hsw hny2 z1 z2 z3
                        go_wp2_with fail
                        refine (ival_any w2f p g2f (L9 ++ encT nm) ⟨ns, nlo, nhi⟩ HSWg.out.1 HMK.out.2 (by have := HTE.out; rw [List.length_append]; omega)).mono ?_
                        rintro e w3 ⟨rfl, hu⟩
                        obtain ⟨g3, hsw⟩ := HSWg.out.step hu
                        rw [show L9 ++ encT nm ++ encIv ⟨ns, nlo, nhi⟩ = L6 ++ (ms.take (k + 1)).flatMap encNm by rw [← HE.out]; simp [encNm]] at hsw
                        have HR := Lib.hid hsw
                        clear hu hsw
                        go_wp2
                        go_roundw
                        case rel => exact ⟨k + 1, g3, by omega, by go_num, HR.out⟩
                        case measure => simp [intOf]; omega
                  · have HD := Lib.hid (show WroteU wr p g (l ++ encSm ⟨als, ends, ⟨rs, rlo, rhi⟩, ms⟩) wz by
                      have := HSW.out
                      rw [List.take_of_length_le (by omega), HFIN.out] at this
                      exact this.wrote)
                    go_wp2
                    go_roundw
                    case rel => exact .inr ⟨rfl, HD.out⟩
                    case measure => simp [intOf]
    · have HWR := Lib.hid hwrote
      clear hwrote
      go_wp2
      go_end0
      exact ⟨rfl, HWR.out⟩
end Go.Proofs.Ytohmadfaaonaaaa

