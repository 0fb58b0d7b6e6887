/- The reference's reader: Summary, its walk. -/
import Derived.Test.YtohmadfaaonaaaaCRmSg
namespace Go.Proofs.Ytohmadfaaonaaaa
open Go.RowKit
open Reg (Is Fact)

theorem shrAl : Shr M.decAl := by
  intro l a r h
  unfold M.decAl at h
  split at h
  · rename_i x r1 h1
    have h1' := shrSmall _ _ _ h1
    split at h
    · rename_i y r2 h2
      have h2' := shrSmall _ _ _ h2
      have h3 := congrArg Prod.snd (Option.some.inj h)
      simp at h3; subst h3; omega
    · cases h
  · cases h
theorem shrMany {α : Type} {d : List UInt8 → Option (α × List UInt8)} (hd : Shr d) : ∀ n, Shr (M.decMany d n)
  | 0 => by
    intro l a r h
    have h3 := congrArg Prod.snd (Option.some.inj h)
    simp at h3; subst h3; exact Nat.le_refl _
  | n + 1 => by
    intro l a r h
    unfold M.decMany at h
    split at h
    · rename_i x r1 h1
      have h1' := hd _ _ _ h1
      split at h
      · rename_i y r2 h2
        have h2' := shrMany hd n _ _ _ h2
        have h3 := congrArg Prod.snd (Option.some.inj h)
        simp at h3; subst h3; omega
      · cases h
    · cases h
theorem list_len {α : Type} {d : List UInt8 → Option (α × List UInt8)} (hd : Shr d) {l r : List UInt8} {a : List α} (h : M.decList d l = some (a, r)) : r.length < l.length := by
  unfold M.decList at h
  split at h
  · rename_i n r1 h1
    have h2 := (count_le h1).2
    have h3 := shrMany hd n _ _ _ h
    omega
  · cases h

theorem gives_app {P : Program} {o : Oper} {a : Act} {w w1 : World} {v u v1 : Value} {K : Value → World → Prop} (s x : Operand) (t : TypeId) (ho : o.op = .call { callee := .builtin .append, args := #[s, x], argTypes := #[t, t] })
    (hs : a.eval s = v) (hx : a.eval x = u) (hrun : (Builtin.append_ #[t, t] o.type #[v, u]).run P w = .ok v1 w1) (hK : K v1 w1) : Reg.Gives P K ((execOp a.eval o).run P w) := by
  unfold execOp
  simp only [ho, resolve, invoke, builtin, Sem.run_bind, Sem.run_pure, Result.andThen_ok, List.map_toArray, List.map_cons, List.map_nil, hs, hx, hrun]
  exact hK

attribute [local go_sem] Reg.wantedV Reg.gives_value Reg.gives_skip Reg.gives_enter
set_option maxHeartbeats 8000000 in
set_option maxRecDepth 100000 in
theorem mSummary_ok (w : World) (m g : Nat) (l : List UInt8) (als : List Al) (r1 : List UInt8) (hr : RmAt w m g l false) (hl : l.length ≤ 1000000000) (hA : M.decList M.decAl l = some (als, r1)) :
    Calls Try.prog 32 #[.pointer (some ⟨m, 0, none⟩)] w (MoS (M.decSm l) m g w) := by
  have hg : g < w.heap.size := by
    obtain ⟨A, cap, hb, hbi, _⟩ := id hr
    exact hbi.lt (by have := list_len shrAl hA; omega)
  have hm := hr.lt
  have HS := Lib.hid (SQ.start hr)
  have HA : Hid (M.opt false (M.decList M.decAl l) = some (als, r1)) := Lib.hid hA
  have HLR := Lib.hid (list_len shrAl hA)
  obtain ⟨R, hR⟩ : ∃ R, M.decSm l = R := ⟨_, rfl⟩
  rw [hR]
  have HRR := Lib.hid (show R = (match M.decBool r1 with
    | none => none
    | some (b, r2) => (match M.decIv r2 with
      | none => none
      | some (iv, r3) => (match M.decList M.decNm r3 with
        | none => none
        | some (ms, r4) => some (⟨als, b, iv, ms⟩, r4)))) by rw [← hR]; unfold M.decSm; rw [hA]; rfl)
  clear hr hA hR
  go_enter Try.func32, Try.ntmps32
  go_wp2_with fail
  refine (MoA.yes (mAlarms _ m g false l HS.out.1 (fun _ => hl)) HA.out).mono ?_
  rintro e w1 ⟨Aa, ca, ha, rfl, al, hah, h1, h2⟩
  simp at hah
  have hq := HS.out.read h1 h2
  have c0 : w1.cell? ⟨w.heap.size + 1, 0, none⟩ = some (.slice none 0 0) := hq.cell 0
  have f0 := hq.free 0
  have HS1 := Lib.hid (hq.store (va' := .slice Aa als.length ca) (als' := als) (iv' := ⟨false, 0, 0⟩) ((Keeps.refl _ _).setCell (by simp) (.slice Aa als.length ca)) (row_set hq.2.2.2.1 0 (.slice Aa als.length ca)) ⟨ha, Aa, ca, rfl, al, by omega, .inr (by simp [Value.ownBlock])⟩ hq.2.2.2.2.2.1)
  clear h1 h2 hq al hah
  go_wp2_with fail
  clear c0 f0
  cases hb : M.decBool r1 with
  | none =>
    have HNO := Lib.hid (show R = none by rw [HRR.out]; simp only [hb])
    have HB : Hid (M.opt false (M.decBool r1) = none) := Lib.hid hb
    clear hb
    refine (Mo.no (mBool _ m g false r1 HS1.out.1) HB.out).mono ?_
    rintro e w2 ⟨rfl, l2, h1, h2⟩
    have hq := HS1.out.read h1 h2
    have c1 : w2.cell? ⟨w.heap.size + 1, 1, none⟩ = some (.bool false) := hq.cell 1
    have f1 := hq.free 1
    have HS2 := Lib.hid (hq.store (b' := false) (iv' := ⟨false, 0, 0⟩) ((Keeps.refl _ _).setCell (by simp) (.bool false)) (row_set hq.2.2.2.1 1 (.bool false)) hq.2.2.2.2.1 hq.2.2.2.2.2.1)
    clear h1 h2 hq
    go_wp2_with fail
    clear c1 f1
    refine (MoI.no (mIval _ m g true l2 HS2.out.1) (rfl : M.opt true (M.decIv l2) = none)).mono ?_
    rintro e w3 ⟨iv, l3, rfl, h1, h2⟩
    unfold ivVal
    have hq := HS2.out.read h1 h2
    have c2 : w3.cell? ⟨w.heap.size + 1, 2, none⟩ = some (.bool false) := hq.cell 2
    have f2 := hq.free 2
    have c3 : w3.cell? ⟨w.heap.size + 1, 3, none⟩ = some (.int .i64 0) := hq.cell 3
    have f3 := hq.free 3
    have c4 : w3.cell? ⟨w.heap.size + 1, 4, none⟩ = some (.int .i64 0) := hq.cell 4
    have f4 := hq.free 4
    have HS3 := Lib.hid (hq.store (iv' := iv) ((((Keeps.refl _ _).setCell (by simp) (.bool iv.some)).setCell (by simp) (.int .i64 iv.lo)).setCell (by simp) (.int .i64 iv.hi)) (row_set (row_set (row_set hq.2.2.2.1 2 (.bool iv.some)) 3 (.int .i64 iv.lo)) 4 (.int .i64 iv.hi)) hq.2.2.2.2.1 hq.2.2.2.2.2.1)
    clear h1 h2 hq
    go_wp2_with fail
    clear c2 c3 c4 f2 f3 f4
    refine (Mo.no (mNum _ m g true l3 HS3.out.1) (rfl : M.opt true (M.dec 0 0 l3) = none)).mono ?_
    rintro e w4 ⟨rfl, l4, h1, h2⟩
    have hz := HS3.out.read h1 h2
    clear h1 h2
    obtain ⟨A, cap, hbx, hmx, hcx⟩ := hz.bad
    have t0 : w4.cell? ⟨m, 0, none⟩ = some (.slice A l4.length cap) := row_cell hbx 0
    have t1 : w4.cell? ⟨m, 1, none⟩ = some (.bool true) := row_cell hbx 1
    have hlen : l4.length ≤ 9223372036854775807 := by unfold maxLen at hmx; omega
    have HZ := Lib.hid hz
    clear hbx hmx hcx hz
    go_wp2_with fail
    go_loopw [5] (fun i wr => i = .int .u64 0 ∧ w4 = wr) (fun _ _ => 1)
    case atStart => exact ⟨rfl, rfl⟩
    case round =>
      obtain ⟨rfl, rfl⟩ := hrel
      have z0 : w4.cell? ⟨w.heap.size, 0, none⟩ = some (.slice none 0 0) := HZ.out.cellz 0
      have z1 : w4.cell? ⟨w.heap.size, 1, none⟩ = some (.bool false) := HZ.out.cellz 1
      have z2 : w4.cell? ⟨w.heap.size, 2, none⟩ = some (.bool false) := HZ.out.cellz 2
      have z3 : w4.cell? ⟨w.heap.size, 3, none⟩ = some (.int .i64 0) := HZ.out.cellz 3
      have z4 : w4.cell? ⟨w.heap.size, 4, none⟩ = some (.int .i64 0) := HZ.out.cellz 4
      have z5 : w4.cell? ⟨w.heap.size, 5, none⟩ = some (.slice none 0 0) := HZ.out.cellz 5
      have y0 := HZ.out.freez 0
      have y1 := HZ.out.freez 1
      have y2 := HZ.out.freez 2
      have y3 := HZ.out.freez 3
      have y4 := HZ.out.freez 4
      have y5 := HZ.out.freez 5
      go_wp2_with fail
      refine bodyPost_ret (v := zeroSm) (by simp [results, Try.results32, go_sem, zeroSm, z0, z1, z2, z3, z4, z5]) rfl ?_
      exact mos_none HNO.out (HZ.out.fin _ _ _ _ _ _).1 (HZ.out.fin _ _ _ _ _ _).2
  | some x =>
    obtain ⟨b, r2⟩ := x
    have HB : Hid (M.opt false (M.decBool r1) = some (b, r2)) := Lib.hid hb
    refine (Mo.yes (mBool _ m g false r1 HS1.out.1) HB.out).mono ?_
    rintro e w2 ⟨rfl, h1, h2⟩
    have hq := HS1.out.read h1 h2
    have c1 : w2.cell? ⟨w.heap.size + 1, 1, none⟩ = some (.bool false) := hq.cell 1
    have f1 := hq.free 1
    have HS2 := Lib.hid (hq.store (b' := b) (iv' := ⟨false, 0, 0⟩) ((Keeps.refl _ _).setCell (by simp) (.bool b)) (row_set hq.2.2.2.1 1 (.bool b)) hq.2.2.2.2.1 hq.2.2.2.2.2.1)
    clear h1 h2 hq
    go_wp2_with fail
    clear c1 f1
    cases hi : M.decIv r2 with
    | none =>
      have HNO := Lib.hid (show R = none by rw [HRR.out]; simp only [hb, hi])
      have HI : Hid (M.opt false (M.decIv r2) = none) := Lib.hid hi
      clear hb hi
      refine (MoI.no (mIval _ m g false r2 HS2.out.1) HI.out).mono ?_
      rintro e w3 ⟨iv, l3, rfl, h1, h2⟩
      unfold ivVal
      have hq := HS2.out.read h1 h2
      have c2 : w3.cell? ⟨w.heap.size + 1, 2, none⟩ = some (.bool false) := hq.cell 2
      have f2 := hq.free 2
      have c3 : w3.cell? ⟨w.heap.size + 1, 3, none⟩ = some (.int .i64 0) := hq.cell 3
      have f3 := hq.free 3
      have c4 : w3.cell? ⟨w.heap.size + 1, 4, none⟩ = some (.int .i64 0) := hq.cell 4
      have f4 := hq.free 4
      have HS3 := Lib.hid (hq.store (iv' := iv) ((((Keeps.refl _ _).setCell (by simp) (.bool iv.some)).setCell (by simp) (.int .i64 iv.lo)).setCell (by simp) (.int .i64 iv.hi)) (row_set (row_set (row_set hq.2.2.2.1 2 (.bool iv.some)) 3 (.int .i64 iv.lo)) 4 (.int .i64 iv.hi)) hq.2.2.2.2.1 hq.2.2.2.2.2.1)
      clear h1 h2 hq
      go_wp2_with fail
      clear c2 c3 c4 f2 f3 f4
      refine (Mo.no (mNum _ m g true l3 HS3.out.1) (rfl : M.opt true (M.dec 0 0 l3) = none)).mono ?_
      rintro e w4 ⟨rfl, l4, h1, h2⟩
      have hz := HS3.out.read h1 h2
      clear h1 h2
      obtain ⟨A, cap, hbx, hmx, hcx⟩ := hz.bad
      have t0 : w4.cell? ⟨m, 0, none⟩ = some (.slice A l4.length cap) := row_cell hbx 0
      have t1 : w4.cell? ⟨m, 1, none⟩ = some (.bool true) := row_cell hbx 1
      have hlen : l4.length ≤ 9223372036854775807 := by unfold maxLen at hmx; omega
      have HZ := Lib.hid hz
      clear hbx hmx hcx hz
      go_wp2_with fail
      go_loopw [5] (fun i wr => i = .int .u64 0 ∧ w4 = wr) (fun _ _ => 1)
      case atStart => exact ⟨rfl, rfl⟩
      case round =>
        obtain ⟨rfl, rfl⟩ := hrel
        have z0 : w4.cell? ⟨w.heap.size, 0, none⟩ = some (.slice none 0 0) := HZ.out.cellz 0
        have z1 : w4.cell? ⟨w.heap.size, 1, none⟩ = some (.bool false) := HZ.out.cellz 1
        have z2 : w4.cell? ⟨w.heap.size, 2, none⟩ = some (.bool false) := HZ.out.cellz 2
        have z3 : w4.cell? ⟨w.heap.size, 3, none⟩ = some (.int .i64 0) := HZ.out.cellz 3
        have z4 : w4.cell? ⟨w.heap.size, 4, none⟩ = some (.int .i64 0) := HZ.out.cellz 4
        have z5 : w4.cell? ⟨w.heap.size, 5, none⟩ = some (.slice none 0 0) := HZ.out.cellz 5
        have y0 := HZ.out.freez 0
        have y1 := HZ.out.freez 1
        have y2 := HZ.out.freez 2
        have y3 := HZ.out.freez 3
        have y4 := HZ.out.freez 4
        have y5 := HZ.out.freez 5
        go_wp2_with fail
        refine bodyPost_ret (v := zeroSm) (by simp [results, Try.results32, go_sem, zeroSm, z0, z1, z2, z3, z4, z5]) rfl ?_
        exact mos_none HNO.out (HZ.out.fin _ _ _ _ _ _).1 (HZ.out.fin _ _ _ _ _ _).2
    | some x =>
      obtain ⟨iv, r3⟩ := x
      have HI : Hid (M.opt false (M.decIv r2) = some (iv, r3)) := Lib.hid hi
      refine (MoI.yes (mIval _ m g false r2 HS2.out.1) HI.out).mono ?_
      rintro e w3 ⟨rfl, h1, h2⟩
      unfold ivVal
      have hq := HS2.out.read h1 h2
      have c2 : w3.cell? ⟨w.heap.size + 1, 2, none⟩ = some (.bool false) := hq.cell 2
      have f2 := hq.free 2
      have c3 : w3.cell? ⟨w.heap.size + 1, 3, none⟩ = some (.int .i64 0) := hq.cell 3
      have f3 := hq.free 3
      have c4 : w3.cell? ⟨w.heap.size + 1, 4, none⟩ = some (.int .i64 0) := hq.cell 4
      have f4 := hq.free 4
      have HS3 := Lib.hid (hq.store (iv' := iv) ((((Keeps.refl _ _).setCell (by simp) (.bool iv.some)).setCell (by simp) (.int .i64 iv.lo)).setCell (by simp) (.int .i64 iv.hi)) (row_set (row_set (row_set hq.2.2.2.1 2 (.bool iv.some)) 3 (.int .i64 iv.lo)) 4 (.int .i64 iv.hi)) hq.2.2.2.2.1 hq.2.2.2.2.2.1)
      clear h1 h2 hq
      go_wp2_with fail
      clear c2 c3 c4 f2 f3 f4
      have HRQ := Lib.hid (show R = (match M.decList M.decNm r3 with | none => none | some (ms, r4) => some (⟨als, b, iv, ms⟩, r4)) by rw [HRR.out]; simp only [hb, hi])
      have HL3 := Lib.hid (show r3.length ≤ 1000000000 by
        have h1 := shrBool _ _ _ hb
        have h2 := shrIv _ _ _ hi
        have h3 := HLR.out
        omega)
      clear hb hi
      cases hd : M.dec 0 0 r3 with
      | none =>
        have HNO := Lib.hid (show R = none by rw [HRQ.out]; unfold M.decList M.decCount; rw [hd])
        have HD : Hid (M.opt false (M.dec 0 0 r3) = none) := Lib.hid hd
        clear hd
        refine (Mo.no (mNum _ m g false r3 HS3.out.1) HD.out).mono ?_
        rintro e w4 ⟨rfl, l4, h1, h2⟩
        have hz := HS3.out.read h1 h2
        clear h1 h2
        obtain ⟨A, cap, hbx, hmx, hcx⟩ := hz.bad
        have t0 : w4.cell? ⟨m, 0, none⟩ = some (.slice A l4.length cap) := row_cell hbx 0
        have t1 : w4.cell? ⟨m, 1, none⟩ = some (.bool true) := row_cell hbx 1
        have hlen : l4.length ≤ 9223372036854775807 := by unfold maxLen at hmx; omega
        have HZ := Lib.hid hz
        clear hbx hmx hcx hz
        go_wp2_with fail
        go_loopw [5] (fun i wr => i = .int .u64 0 ∧ w4 = wr) (fun _ _ => 1)
        case atStart => exact ⟨rfl, rfl⟩
        case round =>
          obtain ⟨rfl, rfl⟩ := hrel
          have z0 : w4.cell? ⟨w.heap.size, 0, none⟩ = some (.slice none 0 0) := HZ.out.cellz 0
          have z1 : w4.cell? ⟨w.heap.size, 1, none⟩ = some (.bool false) := HZ.out.cellz 1
          have z2 : w4.cell? ⟨w.heap.size, 2, none⟩ = some (.bool false) := HZ.out.cellz 2
          have z3 : w4.cell? ⟨w.heap.size, 3, none⟩ = some (.int .i64 0) := HZ.out.cellz 3
          have z4 : w4.cell? ⟨w.heap.size, 4, none⟩ = some (.int .i64 0) := HZ.out.cellz 4
          have z5 : w4.cell? ⟨w.heap.size, 5, none⟩ = some (.slice none 0 0) := HZ.out.cellz 5
          have y0 := HZ.out.freez 0
          have y1 := HZ.out.freez 1
          have y2 := HZ.out.freez 2
          have y3 := HZ.out.freez 3
          have y4 := HZ.out.freez 4
          have y5 := HZ.out.freez 5
          go_wp2_with fail
          refine bodyPost_ret (v := zeroSm) (by simp [results, Try.results32, go_sem, zeroSm, z0, z1, z2, z3, z4, z5]) rfl ?_
          exact mos_none HNO.out (HZ.out.fin _ _ _ _ _ _).1 (HZ.out.fin _ _ _ _ _ _).2
      | some x =>
        obtain ⟨n, r4⟩ := x
        have HD : Hid (M.opt false (M.dec 0 0 r3) = some (n, r4)) := Lib.hid hd
        have hdl := M.dec_len hd
        refine (Mo.yes (mNum _ m g false r3 HS3.out.1) HD.out).mono ?_
        rintro e w4 ⟨rfl, h1, h2⟩
        have hz := HS3.out.read h1 h2
        obtain ⟨A, cap, hbx, hmx, hcx⟩ := hz.bad
        have t0 : w4.cell? ⟨m, 0, none⟩ = some (.slice A r4.length cap) := row_cell hbx 0
        have t1 : w4.cell? ⟨m, 1, none⟩ = some (.bool false) := row_cell hbx 1
        have tz := row_free hbx 1
        have hlen : r4.length ≤ 9223372036854775807 := by unfold maxLen at hmx; omega
        by_cases hn : n ≤ r4.length
        · have dn : decide ((r4.length : Int) < (n : Int)) = false := by simp; omega
          have dn' : decide (r4.length < n) = false := by simp; omega
          have hn9 : n ≤ 1000000000 := by have := HL3.out; omega
          have HM := Lib.hid (show M.decList M.decNm r3 = M.decMany M.decNm n r4 by unfold M.decList M.decCount; rw [hd]; simp only []; rw [if_pos hn])
          have HRM := Lib.hid (show R = (match M.decMany M.decNm n r4 with | none => none | some (ms, r4) => some (⟨als, b, iv, ms⟩, r4)) by rw [HRQ.out, HM.out])
          have HZ := Lib.hid hz
          clear h1 h2 hbx hmx hcx hz hd tz
          go_wp2_with fail
          clear t0 t1 dn dn' hlen
          go_loopw [5] (fun i wr => ∃ (k : Nat) (es : List Nm) (l' : List UInt8) (fb : Bool) (vm : Value), k ≤ n ∧ i = .int .u64 (k : Int) ∧ es.length = k ∧ SQ w wr m g l' fb (.slice Aa als.length ca) vm als es b iv ∧ (fb = false → M.pre es (M.decMany M.decNm (n - k) l') = M.decMany M.decNm n r4) ∧ (fb = true → R = none)) (fun i _ => n - (intOf i).toNat)
          case atStart => exact ⟨0, [], r4, false, _, Nat.zero_le _, rfl, rfl, HZ.out, fun _ => by rw [M.pre_nil]; rfl, fun h => (by cases h)⟩
          case round =>
            obtain ⟨k, es, l', fb, vm, hk, rfl, hes, hsq, hpre, hno⟩ := hrel
            have HSQ := Lib.hid hsq
            have HPRE := Lib.hid hpre
            have HNOB := Lib.hid hno
            have HES := Lib.hid hes
            obtain ⟨A, cap, hbx, _, _⟩ := hsq.bad
            have t1 : wr.cell? ⟨m, 1, none⟩ = some (.bool fb) := row_cell hbx 1
            clear hsq hpre hno hes hbx
            cases fb with
            | true =>
              have HNO := Lib.hid (HNOB.out rfl)
              by_cases hlt : k < n
              all_goals
                have z0 : wr.cell? ⟨w.heap.size, 0, none⟩ = some (.slice none 0 0) := HSQ.out.cellz 0
                have z1 : wr.cell? ⟨w.heap.size, 1, none⟩ = some (.bool false) := HSQ.out.cellz 1
                have z2 : wr.cell? ⟨w.heap.size, 2, none⟩ = some (.bool false) := HSQ.out.cellz 2
                have z3 : wr.cell? ⟨w.heap.size, 3, none⟩ = some (.int .i64 0) := HSQ.out.cellz 3
                have z4 : wr.cell? ⟨w.heap.size, 4, none⟩ = some (.int .i64 0) := HSQ.out.cellz 4
                have z5 : wr.cell? ⟨w.heap.size, 5, none⟩ = some (.slice none 0 0) := HSQ.out.cellz 5
                have y0 := HSQ.out.freez 0
                have y1 := HSQ.out.freez 1
                have y2 := HSQ.out.freez 2
                have y3 := HSQ.out.freez 3
                have y4 := HSQ.out.freez 4
                have y5 := HSQ.out.freez 5
                go_wp2_with fail
                refine bodyPost_ret (v := zeroSm) (by simp [results, Try.results32, go_sem, zeroSm, z0, z1, z2, z3, z4, z5]) rfl ?_
                exact mos_none HNO.out (HSQ.out.fin _ _ _ _ _ _).1 (HSQ.out.fin _ _ _ _ _ _).2
            | false =>
              by_cases hlt : k < n
              · obtain ⟨q, hq⟩ : ∃ q, n - k = q + 1 := ⟨n - k - 1, by omega⟩
                have hpre := HPRE.out rfl
                rw [hq] at hpre
                have HPR := Lib.hid hpre
                have HQ := Lib.hid hq
                clear hpre hq
                go_wp2_with fail
                refine (mText' wr m g l' HSQ.out.1).mono ?_
                rintro e w5 ⟨tx, l5, f5, rfl, h1, h2, h3, h4⟩
                have hq5 := HSQ.out.read h1 h2
                have HT := Lib.hid h3
                have HT' := Lib.hid h4
                have HQ5 := Lib.hid hq5
                clear h1 h2 h3 h4 hq5 t1
                go_wp2_with fail
                refine Reg.wp_region_free (A := ?A) (CM w m g l5 f5 (.slice Aa als.length ca) vm als es b iv tx) (fun _ _ => True)
                  [Is (.pointer (some ⟨w.heap.size + 1, 5, none⟩)), Is vm, Is (.string tx), Is (.pointer (some ⟨m, 0, none⟩)), Any, Any, Any, Any, Is (.pointer (some ⟨w.heap.size + 1, 5, none⟩)), Any]
                  (by kernel_rfl) (by kernel_rfl) rfl ?hA ?hC ?ho ?hlast ?hend
                case hA => intro vs; simp only [Reg.fill, if_true, Nat.zero_add, Nat.reduceAdd, Act.put, List.setIfInBounds_toArray, List.set_cons_succ, List.set_cons_zero]; exact rfl
                case hC => exact fun vs => CM.start (n := 10) (by decide) HQ5.out
                case hlast => repeat (first | exact trivial | refine ⟨Is.lastU, ?_⟩ | refine ⟨Any.lastU, ?_⟩)
                case ho =>
                  repeat' apply And.intro
                  all_goals
                    first
                      | exact trivial
                      | (intro Ls vs w' hC hL hd ha K hK
                         try simp only [Reg.Deps, Reg.at_, List.getD_cons_zero, List.getD_cons_succ, Region.binds, true_implies, Is, and_true] at hd
                         try simp only [Reg.Aw, Region.binds, true_implies, and_true] at ha
                         first
                           | (go_simp
                              exact hK _ _ (hC.pure (by decide)) trivial rfl)
                           | skip)
                  · have e7 := not_up hC.1.2.2.2.2 hL
                    have e9 := not_up hC.1.1 e7
                    have c5 : w'.cell? ⟨w.heap.size + 1, 5, none⟩ = some vm := row_cell (hC.boxed e9) 5
                    go_simp
                    exact hK _ _ (hC.pure (by decide)) trivial rfl
                  · go_simp
                    refine (mIval' w' m g f5 l5 (hC.2.1 hL).1).mono ?_
                    rintro e w'' ⟨iv', l6, f6, rfl, h1, h2, h3⟩
                    exact ⟨_, rfl, hK _ _ (hC.call hL h1 h2 h3) trivial trivial⟩
                  · obtain ⟨iv', hv, hcm⟩ := hC.build hL ha.2
                    unfold ivVal at hv
                    unfold nmVal at hcm
                    go_simp
                    exact hK _ _ hcm trivial trivial
                  · obtain ⟨iv', hv, hcm⟩ := hC.row hL ha
                    unfold nmVal at hv
                    go_simp
                    exact hK _ _ hcm trivial trivial
                  · have he : es.length ≤ 1000000000 := by have := HES.out; omega
                    obtain ⟨y, v1, w1', hy, hrun, hcm⟩ := hC.app hg he hL ha.2.1 ha.1 33
                    simp only [Reg.wantedV, if_true]
                    refine gives_app (.tmp 44) (.tmp 49) 33 rfl hd.1 hy hrun ?_
                    exact hK _ _ hcm trivial trivial
                  · obtain ⟨⟨A', c', hv7⟩, hcm⟩ := hC.put hL ha.2.1
                    have c5 : w'.cell? ⟨w.heap.size + 1, 5, none⟩ = some vm := row_cell (hC.boxed hL) 5
                    have f5 := row_free (hC.boxed hL) 5
                    obtain ⟨Ax, cx, hvm⟩ := own_sl HQ5.out.2.2.2.2.2.1
                    rw [hv7] at hcm
                    go_simp
                    exact hK _ _ (hcm _) trivial trivial
                case hend =>
                  intro vs w6 hC hall
                  obtain ⟨iv', l6, f6, _, hlk, _, _, _, _, h9⟩ := hC.2.2 rfl
                  have hq6 := h9 rfl
                  have HQ6 := Lib.hid hq6
                  have HNX := Lib.hid (show (f6 = false → M.pre (es ++ [⟨tx, iv'⟩]) (M.decMany M.decNm (n - (k + 1)) l6) = M.decMany M.decNm n r4) ∧ (f6 = true → R = none) from ⟨fun h => by
                    have h1 := hlk.2 h
                    have hf5 : f5 = false := by cases f5 with | true => cases h1 | false => rfl
                    subst hf5
                    have h2 := HT'.out rfl
                    have e : M.decNm l' = some (⟨tx, iv'⟩, l6) := by unfold M.decNm; rw [h2]; simp only [show M.decIv l5 = some (iv', l6) from h1]
                    have := HPR.out
                    rw [M.pre_some es e] at this
                    rw [show n - (k + 1) = q by have := HQ.out; omega]; exact this, fun h => by
                    have h1 := hlk.1 h
                    have e : M.decNm l' = none := by
                      unfold M.decNm
                      cases f5 with
                      | true => rw [HT.out rfl]
                      | false => rw [HT'.out rfl]; simp only [show M.decIv l5 = none from h1]
                    have := HPR.out
                    rw [M.pre_none es e] at this
                    rw [HRM.out, ← this]⟩)
                  clear hC hall hq6 hlk h9
                  go_wp2
                  go_roundw
                  case rel => exact ⟨k + 1, es ++ [⟨tx, iv'⟩], l6, f6, _, by omega, by go_num, by simp [HES.out], HQ6.out, HNX.out.1, HNX.out.2⟩
                  case measure => simp [intOf]; omega
              · have hsq := HSQ.out
                have HRF := Lib.hid (show R = some (⟨als, b, iv, es⟩, l') by
                  have := HPRE.out rfl
                  rw [show n - k = 0 by omega, M.pre_zero] at this
                  rw [HRM.out, ← this])
                obtain ⟨Am, cm, rfl⟩ := own_sl hsq.2.2.2.2.2.1
                have c0 : wr.cell? ⟨w.heap.size + 1, 0, none⟩ = some (.slice Aa als.length ca) := hsq.cell 0
                have c1 : wr.cell? ⟨w.heap.size + 1, 1, none⟩ = some (.bool b) := hsq.cell 1
                have c2 : wr.cell? ⟨w.heap.size + 1, 2, none⟩ = some (.bool iv.some) := hsq.cell 2
                have c3 : wr.cell? ⟨w.heap.size + 1, 3, none⟩ = some (.int .i64 iv.lo) := hsq.cell 3
                have c4 : wr.cell? ⟨w.heap.size + 1, 4, none⟩ = some (.int .i64 iv.hi) := hsq.cell 4
                have c5 : wr.cell? ⟨w.heap.size + 1, 5, none⟩ = some (.slice Am es.length cm) := hsq.cell 5
                clear hsq
                have z0 : wr.cell? ⟨w.heap.size, 0, none⟩ = some (.slice none 0 0) := HSQ.out.cellz 0
                have z1 : wr.cell? ⟨w.heap.size, 1, none⟩ = some (.bool false) := HSQ.out.cellz 1
                have z2 : wr.cell? ⟨w.heap.size, 2, none⟩ = some (.bool false) := HSQ.out.cellz 2
                have z3 : wr.cell? ⟨w.heap.size, 3, none⟩ = some (.int .i64 0) := HSQ.out.cellz 3
                have z4 : wr.cell? ⟨w.heap.size, 4, none⟩ = some (.int .i64 0) := HSQ.out.cellz 4
                have z5 : wr.cell? ⟨w.heap.size, 5, none⟩ = some (.slice none 0 0) := HSQ.out.cellz 5
                have y0 := HSQ.out.freez 0
                have y1 := HSQ.out.freez 1
                have y2 := HSQ.out.freez 2
                have y3 := HSQ.out.freez 3
                have y4 := HSQ.out.freez 4
                have y5 := HSQ.out.freez 5
                go_wp2_with fail
                refine bodyPost_ret (v := .agg #[.slice Aa als.length ca, .bool b, .bool iv.some, .int .i64 iv.lo, .int .i64 iv.hi, .slice Am es.length cm]) (by simp [results, Try.results32, go_sem, z0, z1, z2, z3, z4, z5]) rfl ?_
                rw [HRF.out]
                obtain ⟨_, _, _, _, ⟨h8, A8, c8, e8, al8, b8, _⟩, s6, _⟩ := HSQ.out
                obtain ⟨h9, A9, c9, e9, nl9, b9⟩ := own_nms s6
                cases e8
                cases e9
                exact ⟨_, rfl, ⟨h8, h9, _, _, _, _, rfl, al8.keep (six_keep _ _ _ _ _ _ _) (by simp; omega), nl9.keep (six_keep _ _ _ _ _ _ _) (by simp; omega), by omega, by omega⟩, (HSQ.out.fin _ _ _ _ _ _).1, (HSQ.out.fin _ _ _ _ _ _).2⟩
        · have dn : decide ((r4.length : Int) < (n : Int)) = true := by simp; omega
          have dn' : decide (r4.length < n) = true := by simp; omega
          have hn0 : 0 < n := by omega
          have HNO := Lib.hid (show R = none by rw [HRQ.out]; unfold M.decList M.decCount; rw [hd]; simp only []; rw [if_neg hn])
          have HZ := Lib.hid (hz.read hz.1.spoil ((Keeps.refl [m] w4).setCell (p := ⟨m, 1, none⟩) (by simp) (.bool true)))
          clear h1 h2 hbx hmx hcx hz hd
          go_wp2_with fail
          obtain ⟨w9, hw9⟩ : ∃ w9 : World, w9 = w4.setCell ⟨m, 1, none⟩ (.bool true) := ⟨_, rfl⟩
          have x1 : (w4.setCell ⟨m, 1, none⟩ (.bool true)).cell? ⟨m, 1, none⟩ = some (.bool true) := World.cell?_setCell_same _ _ _ t1
          rw [← hw9] at HZ x1
          have HW9 := Lib.hid hw9
          clear hw9
          go_loopw [5] (fun i wr => i = .int .u64 0 ∧ w9 = wr) (fun _ _ => 1)
          case atStart => exact ⟨rfl, HW9.out⟩
          case round =>
            obtain ⟨rfl, rfl⟩ := hrel
            have z0 : w9.cell? ⟨w.heap.size, 0, none⟩ = some (.slice none 0 0) := HZ.out.cellz 0
            have z1 : w9.cell? ⟨w.heap.size, 1, none⟩ = some (.bool false) := HZ.out.cellz 1
            have z2 : w9.cell? ⟨w.heap.size, 2, none⟩ = some (.bool false) := HZ.out.cellz 2
            have z3 : w9.cell? ⟨w.heap.size, 3, none⟩ = some (.int .i64 0) := HZ.out.cellz 3
            have z4 : w9.cell? ⟨w.heap.size, 4, none⟩ = some (.int .i64 0) := HZ.out.cellz 4
            have z5 : w9.cell? ⟨w.heap.size, 5, none⟩ = some (.slice none 0 0) := HZ.out.cellz 5
            have y0 := HZ.out.freez 0
            have y1 := HZ.out.freez 1
            have y2 := HZ.out.freez 2
            have y3 := HZ.out.freez 3
            have y4 := HZ.out.freez 4
            have y5 := HZ.out.freez 5
            go_wp2_with fail
            refine bodyPost_ret (v := zeroSm) (by simp [results, Try.results32, go_sem, zeroSm, z0, z1, z2, z3, z4, z5]) rfl ?_
            exact mos_none HNO.out (HZ.out.fin _ _ _ _ _ _).1 (HZ.out.fin _ _ _ _ _ _).2
end Go.Proofs.Ytohmadfaaonaaaa
