/- The reference's reader: Alarms. -/
import Derived.Test.YtohmadfaaonaaaaCRmIv
import Derived.Test.YtohmadfaaonaaaaCSumRW
namespace Go.Proofs.Ytohmadfaaonaaaa
open Go.RowKit

def MoA (R : Option (List Al × List UInt8)) (m g : Nat) (w : World) (e : Ending) (w' : World) : Prop :=
  match R with
  | some (als, r) => ∃ A c h, e = .returned (.slice A als.length c) ∧ AlsIn w' h A als ∧ w.heap.size ≤ h ∧ RmAt w' m g r false ∧ Keeps [m] w w'
  | none => e = .returned (.slice none 0 0) ∧ ∃ l', RmAt w' m g l' true ∧ Keeps [m] w w'
theorem moa_none {R : Option (List Al × List UInt8)} {m g : Nat} {w w' : World} {l' : List UInt8} (hR : R = none) (h1 : RmAt w' m g l' true) (h2 : Keeps [m] w w') : MoA R m g w (.returned (.slice none 0 0)) w' := by subst hR; exact ⟨rfl, l', h1, h2⟩
/-- Within Alarms. -/
def AB (w wr : World) (m g : Nat) (l : List UInt8) (f : Bool) (v : Value) (ds : List Al) : Prop :=
  RmAt wr m g l f ∧ Keeps [m] w wr ∧ wr.ownsRow w.heap.size 66 2 v ds.length (alCells ds) ∧ m < w.heap.size ∧ g < w.heap.size
section
variable {w wr w1 : World} {m g : Nat} {l l' : List UInt8} {f f' : Bool} {v v1 : Value} {ds : List Al}
theorem AB.read (h : AB w wr m g l f v ds) (h1 : RmAt w1 m g l' f') (hk : Keeps [m] wr w1) : AB w w1 m g l' f' v ds := by
  obtain ⟨_, a2, a3, a4, a5⟩ := h
  exact ⟨h1, a2.trans hk (fun _ h _ => h), owned_keep a3 hk (fun k hv => by have := (a3.lt k hv).1; simp; omega), a4, a5⟩
theorem AB.join (h : AB w wr m g l f v ds) {o : Obj} {a : Al} (q1 : w1.ownsRow w.heap.size 66 2 v1 (ds.length + 1) (alCells ds ++ [.int .i64 a.pos, .int .i64 a.kind])) (q2 : (wr.alloc o).grownBy w1 v.ownBlock) : AB w w1 m g l f v1 (ds ++ [a]) := by
  obtain ⟨a1, a2, a3, a4, a5⟩ := h
  have hS : ∀ x ∈ v.ownBlock.toList, w.heap.size ≤ x := fun x hx => (a3.lt x (by simpa using hx)).1
  have hk : Keeps v.ownBlock.toList wr w1 := ((Keeps.refl _ wr).alloc o).trans (Keeps.of_grown q2) (fun _ h _ => h)
  have hn : ∀ x, x < w.heap.size → x ∉ v.ownBlock.toList := fun x hx hm => by have := hS x hm; omega
  refine ⟨a1.keep hk (hn _ a4) (hn _ a5), a2.trans hk (fun x hx hl => by have := hS x hx; omega), ?_, a4, a5⟩
  have e : alCells (ds ++ [a]) = alCells ds ++ [.int .i64 a.pos, .int .i64 a.kind] := by simp [alCells]
  rw [e, List.length_append]
  exact q1
theorem AB.bad (h : AB w wr m g l f v ds) : ∃ A cap, wr.heap[m]? = some (.cells #[.slice A l.length cap, .bool f] 55 (0, 0)) := by
  obtain ⟨⟨A, cap, hb, _⟩, _⟩ := h
  exact ⟨A, cap, hb⟩
end

set_option maxHeartbeats 4000000 in
set_option maxRecDepth 100000 in
theorem mAlarms (w : World) (m g : Nat) (f : Bool) (l : List UInt8) (hr : RmAt w m g l f) (hl : f = false → l.length ≤ 1000000000) :
    Calls Try.prog 56 #[.pointer (some ⟨m, 0, none⟩)] w (MoA (M.opt f (M.decList M.decAl l)) m g w) := by
  obtain ⟨iA, hA, hA0, hA1, hA2⟩ := info_parts infoAl
  have HN := Lib.hid (mNum w m g f l hr)
  have HW := Lib.hid hr
  have hm := hr.lt
  clear hr
  cases hd : M.opt f (M.dec 0 0 l) with
  | none =>
    have HD := Lib.hid hd
    have e : M.opt f (M.decList M.decAl l) = none := by
      cases f with
      | true => rfl
      | false => show M.decList M.decAl l = none; unfold M.decList M.decCount; rw [show M.dec 0 0 l = none from hd]
    rw [e]
    clear hd e
    go_enter Try.func56, Try.ntmps56
    go_wp2_with fail
    refine (Mo.no HN.out HD.out).mono ?_
    rintro e w' ⟨rfl, l', h1, h2⟩
    obtain ⟨A, cap, hbx, _, hc, hmx⟩ := id h1
    have c0 : w'.cell? ⟨m, 0, none⟩ = some (.slice A l'.length cap) := row_cell hbx 0
    have c1 : w'.cell? ⟨m, 1, none⟩ = some (.bool true) := row_cell hbx 1
    have hlen : l'.length ≤ 9223372036854775807 := by unfold maxLen at hmx; omega
    have H1 := Lib.hid h1
    have H2 := Lib.hid h2
    clear h1 h2 hbx hc hmx
    go_wp2_with fail
    go_loopw [4, 5] (fun v i wr => v = .slice none 0 0 ∧ i = .int .u64 0 ∧ w' = wr) (fun _ _ _ => 1)
    case atStart => exact ⟨rfl, rfl, rfl⟩
    case round =>
      obtain ⟨rfl, rfl, rfl⟩ := hrel
      go_wp2_with fail
      go_ret
      exact ⟨rfl, l', H1.out, H2.out⟩
  | some x =>
    obtain ⟨n, r⟩ := x
    have HD := Lib.hid hd
    have hf : f = false := by cases f with | true => cases hd | false => rfl
    subst hf
    replace hl := hl rfl
    have hd' : M.dec 0 0 l = some (n, r) := hd
    have hdl := M.dec_len hd'
    clear hd
    by_cases hn : n ≤ r.length
    · have hg : g < w.heap.size := by
        obtain ⟨A, cap, hb, hbi, _⟩ := HW.out
        exact hbi.lt (by omega)
      have hn9 : n ≤ 1000000000 := by omega
      obtain ⟨R, hR⟩ : ∃ R, M.opt false (M.decList M.decAl l) = R := ⟨_, rfl⟩
      rw [hR]
      have HRR := Lib.hid (show M.decMany M.decAl n r = R by
        rw [← hR]; show _ = M.decList M.decAl l; unfold M.decList M.decCount; rw [hd']; simp only []; rw [if_pos hn])
      clear hR hd'
      go_enter Try.func56, Try.ntmps56
      go_wp2_with fail
      refine (Mo.yes HN.out HD.out).mono ?_
      rintro e w1 ⟨rfl, h1, h2⟩
      obtain ⟨A, cap, hbx, _, hc, hmx⟩ := id h1
      have c0 : w1.cell? ⟨m, 0, none⟩ = some (.slice A r.length cap) := row_cell hbx 0
      have hlen : r.length ≤ 9223372036854775807 := by unfold maxLen at hmx; omega
      have dn : decide ((r.length : Int) < (n : Int)) = false := by simp; omega
      have dn' : decide (r.length < n) = false := by simp; omega
      have HS0 : Hid (AB w w1 m g r false (.slice none 0 0) []) := Lib.hid ⟨h1, h2, World.ownsRow_nil _ _ _ _, hm, hg⟩
      clear h1 h2 hbx hc hmx
      go_wp2_with fail
      clear c0 dn dn' hlen
      go_loopw [4, 5] (fun v i wr => ∃ (k : Nat) (ds : List Al) (l' : List UInt8) (fb : Bool), k ≤ n ∧ i = .int .u64 (k : Int) ∧ ds.length = k ∧ AB w wr m g l' fb v ds ∧ (fb = false → M.pre ds (M.decMany M.decAl (n - k) l') = R) ∧ (fb = true → R = none)) (fun _ i _ => n - (intOf i).toNat)
      case atStart => exact ⟨0, [], r, false, Nat.zero_le _, rfl, rfl, HS0.out, fun _ => by rw [M.pre_nil]; exact HRR.out, fun h => (by cases h)⟩
      case round =>
        obtain ⟨k, ds, l', fb, hk, rfl, hds, hab, hpre, hno⟩ := hrel
        have HAB := Lib.hid hab
        have HPRE := Lib.hid hpre
        have HNO := Lib.hid hno
        have HDS := Lib.hid hds
        obtain ⟨A, cap, hbx⟩ := hab.bad
        have c1 : wr.cell? ⟨m, 1, none⟩ = some (.bool fb) := row_cell hbx 1
        clear hpre hno hds hab hbx
        cases fb with
        | true =>
          have HRN := Lib.hid (HNO.out rfl)
          by_cases hlt : k < n
          · go_wp2_with fail
            go_ret
            exact moa_none HRN.out HAB.out.1 HAB.out.2.1
          · go_wp2_with fail
            go_ret
            exact moa_none HRN.out HAB.out.1 HAB.out.2.1
        | false =>
          by_cases hlt : k < n
          · obtain ⟨q, hq⟩ : ∃ q, n - k = q + 1 := ⟨n - k - 1, by omega⟩
            have hpre := HPRE.out rfl
            rw [hq] at hpre
            cases ha : M.decSmall l' with
            | none =>
              have HRN := Lib.hid (show R = none by
                have e : M.decAl l' = none := by unfold M.decAl; rw [ha]
                rw [M.pre_none ds e] at hpre
                exact hpre.symm)
              have HA : Hid (M.opt false (M.decSmall l') = none) := Lib.hid ha
              clear ha hq hpre
              go_wp2_with fail
              refine (Mo.no (mSmall wr m g false l' HAB.out.1) HA.out).mono ?_
              rintro e w2 ⟨rfl, l1, h1, h2⟩
              have HAC := Lib.hid (HAB.out.read h1 h2)
              clear h1 h2
              go_wp2_with fail
              refine (Mo.no (mSmall w2 m g true l1 HAC.out.1) (rfl : M.opt true (M.decSmall l1) = none)).mono ?_
              rintro e w3 ⟨rfl, l2, h1, h2⟩
              have HAD := Lib.hid (HAC.out.read h1 h2)
              clear h1 h2
              go_wp2_with (at_builtin; refine wpList_append_own_at _ rfl _ _ 30 rfl w.heap.size 66 iA (.agg #[.int .i64 0, .int .i64 0]) 2 16 Try.underlying30 hA hA0 hA1 hA2 rfl (by decide) _ ds.length _ rfl (HAD.out.2.2.1.alloc _) ⟨w3.heap.size, 0, none⟩ 1 1 [.int .i64 0, .int .i64 0] rfl rfl (cells_new _ _ _) ?qa2 ?qa3 ?qa4 ?qa5 ?_)
              case qa2 => simp [Value.oneCell']
              case qa3 => have := HDS.out; unfold maxLen; omega
              case qa4 => have := HDS.out; omega
              case qa5 => have := HAD.out.2.1.size; simp; omega
              intro v1 w4 q1 q2 _ _
              have HJ := Lib.hid (HAD.out.join (a := ⟨0, 0⟩) q1 q2)
              clear q1 q2
              go_wp2_with fail
              go_roundw
              case rel => exact ⟨k + 1, ds ++ [⟨0, 0⟩], l2, true, by omega, by go_num, by simp [HDS.out], HJ.out, fun h => (by cases h), fun _ => HRN.out⟩
              case measure => simp [intOf]; omega
            | some x =>
              obtain ⟨po, l1⟩ := x
              cases hb : M.decSmall l1 with
              | none =>
                have HRN := Lib.hid (show R = none by
                  have e : M.decAl l' = none := by unfold M.decAl; rw [ha]; simp only [hb]
                  rw [M.pre_none ds e] at hpre
                  exact hpre.symm)
                have HA : Hid (M.opt false (M.decSmall l') = some (po, l1)) := Lib.hid ha
                have HB : Hid (M.opt false (M.decSmall l1) = none) := Lib.hid hb
                clear ha hb hq hpre
                go_wp2_with fail
                refine (Mo.yes (mSmall wr m g false l' HAB.out.1) HA.out).mono ?_
                rintro e w2 ⟨rfl, h1, h2⟩
                have HAC := Lib.hid (HAB.out.read h1 h2)
                clear h1 h2
                go_wp2_with fail
                refine (Mo.no (mSmall w2 m g false l1 HAC.out.1) HB.out).mono ?_
                rintro e w3 ⟨rfl, l2, h1, h2⟩
                have HAD := Lib.hid (HAC.out.read h1 h2)
                clear h1 h2
                go_wp2_with (at_builtin; refine wpList_append_own_at _ rfl _ _ 30 rfl w.heap.size 66 iA (.agg #[.int .i64 0, .int .i64 0]) 2 16 Try.underlying30 hA hA0 hA1 hA2 rfl (by decide) _ ds.length _ rfl (HAD.out.2.2.1.alloc _) ⟨w3.heap.size, 0, none⟩ 1 1 [.int .i64 po, .int .i64 0] rfl rfl (cells_new _ _ _) ?qb2 ?qb3 ?qb4 ?qb5 ?_)
                case qb2 => simp [Value.oneCell']
                case qb3 => have := HDS.out; unfold maxLen; omega
                case qb4 => have := HDS.out; omega
                case qb5 => have := HAD.out.2.1.size; simp; omega
                intro v1 w4 q1 q2 _ _
                have HJ := Lib.hid (HAD.out.join (a := ⟨po, 0⟩) q1 q2)
                clear q1 q2
                go_wp2_with fail
                go_roundw
                case rel => exact ⟨k + 1, ds ++ [⟨po, 0⟩], l2, true, by omega, by go_num, by simp [HDS.out], HJ.out, fun h => (by cases h), fun _ => HRN.out⟩
                case measure => simp [intOf]; omega
              | some x =>
                obtain ⟨ki, l2⟩ := x
                have HNX := Lib.hid (show M.pre (ds ++ [⟨po, ki⟩]) (M.decMany M.decAl (n - (k + 1)) l2) = R by
                  have e : M.decAl l' = some (⟨po, ki⟩, l2) := by unfold M.decAl; rw [ha]; simp only [hb]
                  rw [M.pre_some ds e] at hpre
                  rw [show n - (k + 1) = q by omega]; exact hpre)
                have HA : Hid (M.opt false (M.decSmall l') = some (po, l1)) := Lib.hid ha
                have HB : Hid (M.opt false (M.decSmall l1) = some (ki, l2)) := Lib.hid hb
                clear ha hb hq hpre
                go_wp2_with fail
                refine (Mo.yes (mSmall wr m g false l' HAB.out.1) HA.out).mono ?_
                rintro e w2 ⟨rfl, h1, h2⟩
                have HAC := Lib.hid (HAB.out.read h1 h2)
                clear h1 h2
                go_wp2_with fail
                refine (Mo.yes (mSmall w2 m g false l1 HAC.out.1) HB.out).mono ?_
                rintro e w3 ⟨rfl, h1, h2⟩
                have HAD := Lib.hid (HAC.out.read h1 h2)
                clear h1 h2
                go_wp2_with (at_builtin; refine wpList_append_own_at _ rfl _ _ 30 rfl w.heap.size 66 iA (.agg #[.int .i64 0, .int .i64 0]) 2 16 Try.underlying30 hA hA0 hA1 hA2 rfl (by decide) _ ds.length _ rfl (HAD.out.2.2.1.alloc _) ⟨w3.heap.size, 0, none⟩ 1 1 [.int .i64 po, .int .i64 ki] rfl rfl (cells_new _ _ _) ?qc2 ?qc3 ?qc4 ?qc5 ?_)
                case qc2 => simp [Value.oneCell']
                case qc3 => have := HDS.out; unfold maxLen; omega
                case qc4 => have := HDS.out; omega
                case qc5 => have := HAD.out.2.1.size; simp; omega
                intro v1 w4 q1 q2 _ _
                have HJ := Lib.hid (HAD.out.join (a := ⟨po, ki⟩) q1 q2)
                clear q1 q2
                go_wp2_with fail
                go_roundw
                case rel => exact ⟨k + 1, ds ++ [⟨po, ki⟩], l2, false, by omega, by go_num, by simp [HDS.out], HJ.out, fun _ => HNX.out, fun h => (by cases h)⟩
                case measure => simp [intOf]; omega
          · have hRS : R = some (ds, l') := by
              have := HPRE.out rfl
              rw [show n - k = 0 by omega, M.pre_zero] at this
              exact this.symm
            have HRS := Lib.hid hRS
            clear hRS
            obtain ⟨A1, k1, rfl⟩ := own_sl HAB.out.2.2.1
            go_wp2_with fail
            go_ret
            rw [HRS.out]
            obtain ⟨h9, A9, c9, e9, al, b9⟩ := own_als HAB.out.2.2.1
            cases e9
            exact ⟨_, _, h9, rfl, al, b9, HAB.out.1, HAB.out.2.1⟩
    · have e : M.opt false (M.decList M.decAl l) = none := by show M.decList M.decAl l = none; unfold M.decList M.decCount; rw [hd']; simp only []; rw [if_neg hn]
      rw [e]
      clear e hd'
      go_enter Try.func56, Try.ntmps56
      go_wp2_with fail
      refine (Mo.yes HN.out HD.out).mono ?_
      rintro e w1 ⟨rfl, h1, h2⟩
      have hsp := h1.spoil
      obtain ⟨A, cap, hbx, _, hc, hmx⟩ := id h1
      have c0 : w1.cell? ⟨m, 0, none⟩ = some (.slice A r.length cap) := row_cell hbx 0
      have c1 : w1.cell? ⟨m, 1, none⟩ = some (.bool false) := row_cell hbx 1
      have z1 := row_free hbx 1
      have hlen : r.length ≤ 9223372036854775807 := by unfold maxLen at hmx; omega
      have dn : decide ((r.length : Int) < (n : Int)) = true := by simp; omega
      have dn' : decide (r.length < n) = true := by simp; omega
      have H1 := Lib.hid hsp
      have H2 := Lib.hid (h2.setCell (p := ⟨m, 1, none⟩) (by simp) (.bool true))
      clear h1 h2 hsp hbx hc hmx
      go_wp2_with fail
      obtain ⟨w9, hw9⟩ : ∃ w9 : World, w9 = w1.setCell ⟨m, 1, none⟩ (.bool true) := ⟨_, rfl⟩
      rw [← hw9] at H1 H2
      have x1 : w9.cell? ⟨m, 1, none⟩ = some (.bool true) := by rw [hw9]; exact World.cell?_setCell_same _ _ _ c1
      go_loopw [4, 5] (fun v i wr => v = .slice none 0 0 ∧ i = .int .u64 0 ∧ wr = w9) (fun _ _ _ => 1)
      case atStart => exact ⟨rfl, rfl, hw9.symm⟩
      case round =>
        obtain ⟨rfl, rfl, rfl⟩ := hrel
        have hn0 : 0 < n := by omega
        go_wp2_with fail
        go_ret
        exact ⟨rfl, r, by rw [← hw9]; exact H1.out, by rw [← hw9]; exact H2.out⟩
end Go.Proofs.Ytohmadfaaonaaaa
