/- The reader's summary: its walk. -/
import Derived.Test.YtohmadfaaonaaaaCSumR
namespace Go.Proofs.Ytohmadfaaonaaaa
open Go.RowKit

/-! ### What is left is no longer than what was there -/
def Shr {α : Type} (d : List UInt8 → Option (α × List UInt8)) : Prop := ∀ l a r, d l = some (a, r) → r.length ≤ l.length
theorem shrInt : Shr M.decInt := by
  intro l a r h
  unfold M.decInt at h
  split at h
  · rename_i n r' hd
    have h2 := congrArg Prod.snd (Option.some.inj h)
    have := (M.dec_len hd).1
    simp at h2; subst h2; omega
  · cases h
theorem shrSmall : Shr M.decSmall := by
  intro l a r h
  unfold M.decSmall at h
  split at h
  · rename_i z r' hd
    split at h
    · have h2 := congrArg Prod.snd (Option.some.inj h)
      have := shrInt _ _ _ hd
      simp at h2; subst h2; omega
    · cases h
  · cases h
theorem shrBool : Shr M.decBool := by
  intro l a r h
  unfold M.decBool at h
  split at h
  · cases h
  · split at h
    · have h2 := congrArg Prod.snd (Option.some.inj h)
      simp at h2; subst h2; simp
    · cases h
theorem shrStr : Shr M.decStr := by
  intro l a r h
  unfold M.decStr M.decText at h
  split at h
  · rename_i s r' hd
    have h2 := congrArg Prod.snd (Option.some.inj h)
    split at hd
    · rename_i n r2 hd2
      have := (M.dec_len hd2).1
      split at hd
      · have h3 := congrArg Prod.snd (Option.some.inj hd)
        simp at h2 h3; subst h2; subst h3; simp; omega
      · cases hd
    · cases hd
  · cases h
theorem shrIv : Shr M.decIv := by
  intro l a r h
  unfold M.decIv at h
  split at h
  · rename_i r' hd
    have h2 := congrArg Prod.snd (Option.some.inj h)
    have := shrBool _ _ _ hd
    simp at h2; subst h2; omega
  · rename_i r' hd
    have h0 := shrBool _ _ _ hd
    split at h
    · rename_i lo r1 h1
      have h1' := shrInt _ _ _ h1
      split at h
      · rename_i hi r2 h2
        have h2' := shrInt _ _ _ h2
        have h3 := congrArg Prod.snd (Option.some.inj h)
        simp at h3; subst h3; omega
      · cases h
    · cases h
  · cases h
theorem count_le {l r : List UInt8} {n : Nat} (h : M.decCount l = some (n, r)) : n ≤ r.length ∧ r.length < l.length := by
  unfold M.decCount at h
  split at h
  · rename_i m r' hd
    split at h
    · rename_i hn
      have h2 := Option.some.inj h
      have e1 := congrArg Prod.fst h2
      have e2 := congrArg Prod.snd h2
      simp at e1 e2
      subst e1; subst e2
      exact ⟨hn, (M.dec_len hd).1⟩
    · cases h
  · cases h

theorem own_sl {w : World} {base s n : Nat} {e : TypeId} {v : Value} {xs : List Value} (h : w.ownsRow base e s v n xs) : ∃ A c, v = .slice A n c := by
  rcases h.2 with ⟨hv, h0⟩ | ⟨g', cap', cur, hv, _⟩
  · exact ⟨none, 0, by rw [hv, h0]⟩
  · exact ⟨_, _, hv⟩
theorem SB.alloc {w wr : World} {p g : Nat} {f : Bool} {l : List UInt8} {va vm : Value} {als : List Al} {ms : List Nm} {b : Bool} {iv : Iv} (h : SB w wr p g f l va vm als ms b iv) (hp : p < w.heap.size) (hg : g < w.heap.size) (o : Obj) : SB w (wr.alloc o) p g f l va vm als ms b iv :=
  h.own hp hg (S := []) (by simp) ((Keeps.refl [] _).alloc o) (h.2.2.2.1.alloc o) (h.2.2.2.2.alloc o)

theorem sum_fell {R : Option (Sm × List UInt8)} {p g : Nat} {f : Bool} {w w' : World} {l' : List UInt8} (hR : R = none) (h1 : RdAt w' p g l' f) (hk : Keeps [p] w w') : SumOut R p g f w (.panicked refused) w' := by
  subst hR; exact ⟨rfl, l', h1, hk⟩

set_option maxHeartbeats 4000000 in
set_option maxRecDepth 100000 in
theorem summary_out (w : World) (p g : Nat) (f : Bool) (l : List UInt8) (hr : RdAt w p g l f) (hl : l.length ≤ 1000000000) :
    Calls Try.prog 55 #[.pointer (some ⟨p, 0, none⟩)] w (SumOut (M.decSm l) p g f w) := by
  obtain ⟨iA, hA, hA0, hA1, hA2⟩ := info_parts infoAl
  obtain ⟨iN, hN, hN0, hN1, hN2⟩ := info_parts infoNm
  obtain ⟨R, hR⟩ : ∃ R, M.decSm l = R := ⟨_, rfl⟩
  rw [hR]
  have HRR := Lib.hid hR
  have hp := hr.lt
  have hk0 := (Keeps.refl [] w).alloc (.cells #[.slice none 0 0, .bool false, .bool false, .int .i64 0, .int .i64 0, .slice none 0 0] 35)
  have HK0 := Lib.hid hk0
  have HR0 := Lib.hid (hr.keep hk0 (by simp) (by simp))
  have HC := Lib.hid (count_out _ p g f l HR0.out)
  have HW := Lib.hid hr
  clear hr hR hk0
  cases hcnt : M.decCount l with
  | none =>
    have HNO := Lib.hid (show R = none by rw [← HRR.out]; unfold M.decSm M.decList; rw [hcnt])
    have HCN := Lib.hid hcnt
    clear hcnt
    go_enter Try.func55, Try.ntmps55
    go_wp2_with fail
    refine (Out.fell HC.out HCN.out).mono ?_
    rintro e w1 ⟨rfl, l1, h1, h2⟩
    have H1 := Lib.hid h1
    have H2 := Lib.hid ((HK0.out.mono (by simp)).trans h2 (fun _ h _ => h))
    clear h1 h2
    go_wp2_with fail
    exact ⟨rfl, sum_fell HNO.out H1.out H2.out⟩
  | some x =>
    obtain ⟨n, r⟩ := x
    have hnr := count_le hcnt
    have hg : g < w.heap.size := by
      obtain ⟨A, cap, hb, hbi, _⟩ := HW.out
      exact hbi.lt (by omega)
    have hn9 : n ≤ 1000000000 := by omega
    have HRL := Lib.hid (show r.length ≤ l.length by omega)
    have HS0 := Lib.hid (SB.start HW.out hg)
    have HCN := Lib.hid hcnt
    have HDL := Lib.hid (show M.decList M.decAl l = M.decMany M.decAl n r by unfold M.decList; rw [hcnt])
    clear hcnt hnr
    go_enter Try.func55, Try.ntmps55
    go_wp2_with fail
    refine (Out.took HC.out HCN.out).mono ?_
    rintro e w1 ⟨rfl, h1, h2⟩
    have HS1 := Lib.hid (HS0.out.read hp h1 h2)
    clear h1 h2
    go_wp2_with fail
    go_loopw [9] (fun i wr => ∃ (k : Nat) (ds : List Al) (l' : List UInt8) (va : Value), k ≤ n ∧ i = .int .i64 (k : Int) ∧ ds.length = k ∧ SB w wr p g f l' va (.slice none 0 0) ds [] false ⟨false, 0, 0⟩ ∧ M.pre ds (M.decMany M.decAl (n - k) l') = M.decMany M.decAl n r ∧ l'.length ≤ l.length) (fun i _ => n - (intOf i).toNat)
    case atStart => exact ⟨0, [], r, _, Nat.zero_le _, rfl, rfl, HS1.out, M.pre_nil _, HRL.out⟩
    case round =>
      obtain ⟨k, ds, l', va, hk, rfl, hds, hsb, hpre, hll⟩ := hrel
      have HSB := Lib.hid hsb
      have HPRE := Lib.hid hpre
      have HLL := Lib.hid hll
      have HDS := Lib.hid hds
      clear hsb hpre hll hds
      by_cases hlt : k < n
      · obtain ⟨m, hm⟩ : ∃ m, n - k = m + 1 := ⟨n - k - 1, by omega⟩
        rw [hm] at HPRE
        cases ha : M.decSmall l' with
        | none =>
          have HNO := Lib.hid (show R = none by
            have e : M.decAl l' = none := by unfold M.decAl; rw [ha]
            have := HPRE.out
            rw [M.pre_none ds e] at this
            rw [← HRR.out]; unfold M.decSm; rw [HDL.out, ← this])
          have HA := Lib.hid ha
          clear ha hm
          go_wp2_with fail
          refine (Out.fell (small_out wr p g f l' HSB.out.1) HA.out).mono ?_
          rintro e w2 ⟨rfl, l2, h1, h2⟩
          have H1 := Lib.hid h1
          have H2 := Lib.hid (HSB.out.2.1.trans h2 (fun _ h _ => h))
          clear h1 h2
          go_wp2_with fail
          exact ⟨rfl, sum_fell HNO.out H1.out H2.out⟩
        | some x =>
          obtain ⟨po, l1⟩ := x
          cases hb : M.decSmall l1 with
          | none =>
            have HNO := Lib.hid (show R = none by
              have e : M.decAl l' = none := by unfold M.decAl; rw [ha]; simp only [hb]
              have := HPRE.out
              rw [M.pre_none ds e] at this
              rw [← HRR.out]; unfold M.decSm; rw [HDL.out, ← this])
            have HA := Lib.hid ha
            have HB := Lib.hid hb
            clear ha hb hm
            go_wp2_with fail
            refine (Out.took (small_out wr p g f l' HSB.out.1) HA.out).mono ?_
            rintro e w2 ⟨rfl, h1, h2⟩
            have HSC := Lib.hid (HSB.out.read hp h1 h2)
            clear h1 h2
            go_wp2_with fail
            refine (Out.fell (small_out w2 p g f l1 HSC.out.1) HB.out).mono ?_
            rintro e w3 ⟨rfl, l3, h1, h2⟩
            have H1 := Lib.hid h1
            have H2 := Lib.hid (HSC.out.2.1.trans h2 (fun _ h _ => h))
            clear h1 h2
            go_wp2_with fail
            exact ⟨rfl, sum_fell HNO.out H1.out H2.out⟩
          | some x =>
            obtain ⟨ki, l2⟩ := x
            have HNX := Lib.hid (show M.pre (ds ++ [⟨po, ki⟩]) (M.decMany M.decAl (n - (k + 1)) l2) = M.decMany M.decAl n r by
              have e : M.decAl l' = some (⟨po, ki⟩, l2) := by unfold M.decAl; rw [ha]; simp only [hb]
              have := HPRE.out
              rw [M.pre_some ds e] at this
              rw [show n - (k + 1) = m by omega]; exact this)
            have HL2 := Lib.hid (show l2.length ≤ l.length by
              have h1 := shrSmall _ _ _ ha
              have h2 := shrSmall _ _ _ hb
              have h3 := HLL.out
              omega)
            have HA := Lib.hid ha
            have HB := Lib.hid hb
            clear ha hb hm
            go_wp2_with fail
            refine (Out.took (small_out wr p g f l' HSB.out.1) HA.out).mono ?_
            rintro e w2 ⟨rfl, h1, h2⟩
            have HSC := Lib.hid (HSB.out.read hp h1 h2)
            clear h1 h2
            go_wp2_with fail
            refine (Out.took (small_out w2 p g f l1 HSC.out.1) HB.out).mono ?_
            rintro e w3 ⟨rfl, h1, h2⟩
            have hsd := HSC.out.read hp h1 h2
            have c0 := hsd.cell 0
            have f0 := hsd.free 0
            have HSD := Lib.hid hsd
            simp at c0
            clear h1 h2 hsd
            go_wp2_with (at_builtin; refine wpList_append_own_at _ rfl _ _ 30 rfl (w.heap.size + 1) 66 iA (.agg #[.int .i64 0, .int .i64 0]) 2 16 Try.underlying30 hA hA0 hA1 hA2 rfl (by decide) _ ds.length _ rfl (HSD.out.2.2.2.1.alloc _) ⟨w3.heap.size, 0, none⟩ 1 1 [.int .i64 po, .int .i64 ki] rfl rfl (cells_new _ _ _) ?qa2 ?qa3 ?qa4 ?qa5 ?_)
            case qa2 => simp [Value.oneCell']
            case qa3 => have := HDS.out; unfold maxLen; omega
            case qa4 => have := HDS.out; omega
            case qa5 => have := HSD.out.2.1.size; simp; omega
            intro v1 w4 q1 q2 _ _
            obtain ⟨A1, c1, rfl⟩ := own_sl q1
            obtain ⟨hkw, hb4, hsn⟩ := SB.alarm HSD.out hp hg (a := ⟨po, ki⟩) q1 q2
            have c4 : w4.cell? ⟨w.heap.size, 0, none⟩ = some va := row_cell hb4 0
            have f4 := row_free hb4 0
            have HSN := Lib.hid hsn
            clear q1 q2 hkw hb4 hsn
            go_wp2_with fail
            go_roundw
            case rel => exact ⟨k + 1, ds ++ [⟨po, ki⟩], l2, _, by omega, by go_num, by simp [HDS.out], HSN.out, HNX.out, HL2.out⟩
            case measure => simp [intOf]; omega
      · have HD1 := Lib.hid (show M.decList M.decAl l = some (ds, l') by
          have := HPRE.out
          rw [show n - k = 0 by omega, M.pre_zero] at this
          rw [HDL.out, this])
        clear HPRE
        obtain ⟨wa, rfl⟩ : ∃ wa : World, wa = wr := ⟨_, rfl⟩
        cases hfl : M.decBool l' with
        | none =>
          have HNO := Lib.hid (show R = none by rw [← HRR.out]; unfold M.decSm; rw [HD1.out]; simp only [hfl])
          have HF := Lib.hid hfl
          clear hfl
          go_wp2_with fail
          refine (Out.fell (flag_out wa p g f l' HSB.out.1) HF.out).mono ?_
          rintro e w2 ⟨rfl, l2, h1, h2⟩
          have H1 := Lib.hid h1
          have H2 := Lib.hid (HSB.out.2.1.trans h2 (fun _ h _ => h))
          clear h1 h2
          go_wp2_with fail
          exact ⟨rfl, sum_fell HNO.out H1.out H2.out⟩
        | some x =>
          obtain ⟨b, l1⟩ := x
          have HF := Lib.hid hfl
          have HL1 := Lib.hid (show l1.length ≤ l.length from Nat.le_trans (shrBool _ _ _ hfl) HLL.out)
          clear hfl
          go_wp2_with fail
          refine (Out.took (flag_out wa p g f l' HSB.out.1) HF.out).mono ?_
          rintro e w2 ⟨rfl, h1, h2⟩
          have hsc := HSB.out.read hp h1 h2
          have c1 : w2.cell? ⟨w.heap.size, 1, none⟩ = some (.bool false) := hsc.cell 1
          have f1 := hsc.free 1
          have HSC := Lib.hid (hsc.store hp hg (iv' := ⟨false, 0, 0⟩) ((Keeps.refl _ _).setCell (by simp) (.bool b)) (row_set hsc.2.2.1 1 (.bool b)) hsc.2.2.2.1 hsc.2.2.2.2)
          clear h1 h2 hsc
          cases hiv : M.decIv l1 with
          | none =>
            have HNO := Lib.hid (show R = none by rw [← HRR.out]; unfold M.decSm; rw [HD1.out]; simp only [HF.out, hiv])
            have HI := Lib.hid hiv
            clear hiv
            go_wp2_with fail
            refine (Out.fell (ival_out _ p g f l1 HSC.out.1) HI.out).mono ?_
            rintro e w3 ⟨rfl, l3, h1, h2⟩
            have H1 := Lib.hid h1
            have H2 := Lib.hid (HSC.out.2.1.trans h2 (fun _ h _ => h))
            clear h1 h2
            go_wp2_with fail
            exact ⟨rfl, sum_fell HNO.out H1.out H2.out⟩
          | some x =>
            obtain ⟨iv, l2⟩ := x
            have HI := Lib.hid hiv
            have HL2 := Lib.hid (show l2.length ≤ l.length from Nat.le_trans (shrIv _ _ _ hiv) HL1.out)
            clear hiv
            go_wp2_with fail
            refine (Out.took (ival_out _ p g f l1 HSC.out.1) HI.out).mono ?_
            rintro e w3 ⟨rfl, h1, h2⟩
            unfold ivVal
            have hsd := HSC.out.read hp h1 h2
            have d2 : w3.cell? ⟨w.heap.size, 2, none⟩ = some (.bool false) := hsd.cell 2
            have d3 : w3.cell? ⟨w.heap.size, 3, none⟩ = some (.int .i64 0) := hsd.cell 3
            have d4 : w3.cell? ⟨w.heap.size, 4, none⟩ = some (.int .i64 0) := hsd.cell 4
            have e2 := hsd.free 2
            have e3 := hsd.free 3
            have e4 := hsd.free 4
            have HSD := Lib.hid (hsd.store hp hg (iv' := iv) ((((Keeps.refl _ _).setCell (by simp) (.bool iv.some)).setCell (by simp) (.int .i64 iv.lo)).setCell (by simp) (.int .i64 iv.hi))
              (row_set (row_set (row_set hsd.2.2.1 2 (.bool iv.some)) 3 (.int .i64 iv.lo)) 4 (.int .i64 iv.hi)) hsd.2.2.2.1 hsd.2.2.2.2)
            clear h1 h2 hsd c1 f1
            cases hcn : M.decCount l2 with
            | none =>
              have HNO := Lib.hid (show R = none by rw [← HRR.out]; unfold M.decSm; rw [HD1.out]; simp only [HF.out, HI.out, M.decList, hcn])
              have HCN2 := Lib.hid hcn
              clear hcn
              go_wp2_with fail
              refine (Out.fell (count_out _ p g f l2 HSD.out.1) HCN2.out).mono ?_
              rintro e w4 ⟨rfl, l3, h1, h2⟩
              have H1 := Lib.hid h1
              have H2 := Lib.hid (HSD.out.2.1.trans h2 (fun _ h _ => h))
              clear h1 h2
              go_wp2_with fail
              exact ⟨rfl, sum_fell HNO.out H1.out H2.out⟩
            | some x =>
              obtain ⟨n2, r2⟩ := x
              have hnr2 := count_le hcn
              have hn92 : n2 ≤ 1000000000 := by have := HL2.out; omega
              have HRL2 := Lib.hid (show r2.length ≤ l.length by have := HL2.out; omega)
              have HCN2 := Lib.hid hcn
              have HDL2 := Lib.hid (show M.decList M.decNm l2 = M.decMany M.decNm n2 r2 by unfold M.decList; rw [hcn])
              have HRE := Lib.hid (show R = (match M.decMany M.decNm n2 r2 with | none => none | some (ms, r3) => some (⟨ds, b, iv, ms⟩, r3)) by
                rw [← HRR.out]; unfold M.decSm; rw [HD1.out]; simp only [HF.out, HI.out, HDL2.out]
                cases M.decMany M.decNm n2 r2 <;> rfl)
              clear hcn hnr2
              go_wp2_with fail
              refine (Out.took (count_out _ p g f l2 HSD.out.1) HCN2.out).mono ?_
              rintro e w4 ⟨rfl, h1, h2⟩
              have HS4 := Lib.hid (HSD.out.read hp h1 h2)
              clear h1 h2 d2 d3 d4 e2 e3 e4
              go_wp2_with fail
              go_loopw [32] (fun i wr => ∃ (k : Nat) (es : List Nm) (l' : List UInt8) (vm : Value), k ≤ n2 ∧ i = .int .i64 (k : Int) ∧ es.length = k ∧ SB w wr p g f l' va vm ds es b iv ∧ M.pre es (M.decMany M.decNm (n2 - k) l') = M.decMany M.decNm n2 r2 ∧ l'.length ≤ l.length) (fun i _ => n2 - (intOf i).toNat)
              case atStart => exact ⟨0, [], r2, _, Nat.zero_le _, rfl, rfl, HS4.out, M.pre_nil _, HRL2.out⟩
              case round =>
                obtain ⟨j, es, m', vm, hj, rfl, hes, hsb, hpre, hll⟩ := hrel
                have HSE := Lib.hid hsb
                have HPRE := Lib.hid hpre
                have HLM := Lib.hid hll
                have HES := Lib.hid hes
                clear hsb hpre hll hes
                by_cases hjt : j < n2
                · obtain ⟨m, hm⟩ : ∃ m, n2 - j = m + 1 := ⟨n2 - j - 1, by omega⟩
                  rw [hm] at HPRE
                  cases ha : M.decStr m' with
                  | none =>
                    have HNO := Lib.hid (show R = none by
                      have e : M.decNm m' = none := by unfold M.decNm; rw [ha]
                      have := HPRE.out
                      rw [M.pre_none es e] at this
                      rw [HRE.out, ← this])
                    have HA := Lib.hid ha
                    clear ha hm
                    go_wp2_with fail
                    refine (Out.fell (str_out wr p g f m' HSE.out.1) HA.out).mono ?_
                    rintro e w5 ⟨rfl, l5, h1, h2⟩
                    have H1 := Lib.hid h1
                    have H2 := Lib.hid (HSE.out.2.1.trans h2 (fun _ h _ => h))
                    clear h1 h2
                    go_wp2_with fail
                    exact ⟨rfl, sum_fell HNO.out H1.out H2.out⟩
                  | some x =>
                    obtain ⟨nm, m1⟩ := x
                    cases hb : M.decIv m1 with
                    | none =>
                      have HNO := Lib.hid (show R = none by
                        have e : M.decNm m' = none := by unfold M.decNm; rw [ha]; simp only [hb]
                        have := HPRE.out
                        rw [M.pre_none es e] at this
                        rw [HRE.out, ← this])
                      have HA := Lib.hid ha
                      have HB := Lib.hid hb
                      clear ha hb hm
                      go_wp2_with fail
                      refine (Out.took (str_out wr p g f m' HSE.out.1) HA.out).mono ?_
                      rintro e w5 ⟨rfl, h1, h2⟩
                      have HSF := Lib.hid (HSE.out.read hp h1 h2)
                      clear h1 h2
                      go_wp2_with fail
                      refine (Out.fell (ival_out w5 p g f m1 HSF.out.1) HB.out).mono ?_
                      rintro e w6 ⟨rfl, l5, h1, h2⟩
                      have H1 := Lib.hid h1
                      have H2 := Lib.hid (HSF.out.2.1.trans h2 (fun _ h _ => h))
                      clear h1 h2
                      go_wp2_with fail
                      exact ⟨rfl, sum_fell HNO.out H1.out H2.out⟩
                    | some x =>
                      obtain ⟨jv, m2⟩ := x
                      have HNX := Lib.hid (show M.pre (es ++ [⟨nm, jv⟩]) (M.decMany M.decNm (n2 - (j + 1)) m2) = M.decMany M.decNm n2 r2 by
                        have e : M.decNm m' = some (⟨nm, jv⟩, m2) := by unfold M.decNm; rw [ha]; simp only [hb]
                        have := HPRE.out
                        rw [M.pre_some es e] at this
                        rw [show n2 - (j + 1) = m by omega]; exact this)
                      have HLM2 := Lib.hid (show m2.length ≤ l.length by
                        have h1 := shrStr _ _ _ ha
                        have h2 := shrIv _ _ _ hb
                        have h3 := HLM.out
                        omega)
                      have HA := Lib.hid ha
                      have HB := Lib.hid hb
                      clear ha hb hm
                      go_wp2_with fail
                      refine (Out.took (str_out wr p g f m' HSE.out.1) HA.out).mono ?_
                      rintro e w5 ⟨rfl, h1, h2⟩
                      have HSF := Lib.hid (HSE.out.read hp h1 h2)
                      clear h1 h2
                      go_wp2_with fail
                      refine (Out.took (ival_out w5 p g f m1 HSF.out.1) HB.out).mono ?_
                      rintro e w6 ⟨rfl, h1, h2⟩
                      unfold ivVal
                      have hsg := HSF.out.read hp h1 h2
                      have hw6 := hsg.2.1.size
                      have hsh := hsg.alloc hp hg (.cells #[.bool jv.some, .int .i64 jv.lo, .int .i64 jv.hi] 32)
                      have c5 : (w6.alloc (.cells #[.bool jv.some, .int .i64 jv.lo, .int .i64 jv.hi] 32)).cell? ⟨w.heap.size, 5, none⟩ = some vm := hsh.cell 5
                      have HSH := Lib.hid hsh
                      clear h1 h2 hsg hsh
                      go_wp2_with (at_builtin; refine wpList_append_own_at _ rfl _ _ 33 rfl (w.heap.size + 1) 87 iN (.agg #[.string .empty, .bool false, .int .i64 0, .int .i64 0]) 4 40 Try.underlying33 hN hN0 hN1 hN2 rfl (by decide) _ es.length _ rfl (HSH.out.2.2.2.2.alloc _) ⟨w6.heap.size + 1, 0, none⟩ 1 1 [.string nm, .bool jv.some, .int .i64 jv.lo, .int .i64 jv.hi] rfl rfl ?qb1 ?qb2 ?qb3 ?qb4 ?qb5 ?_)
                      case qb1 =>
                        have := cells_new (w6.alloc (.cells #[.bool jv.some, .int .i64 jv.lo, .int .i64 jv.hi] 32)) 87 [.string nm, .bool jv.some, .int .i64 jv.lo, .int .i64 jv.hi]
                        have hsz : (w6.alloc (.cells #[.bool jv.some, .int .i64 jv.lo, .int .i64 jv.hi] 32)).heap.size = w6.heap.size + 1 := by simp
                        rw [hsz] at this
                        exact this
                      case qb2 => simp [Value.oneCell']
                      case qb3 => have := HES.out; unfold maxLen; omega
                      case qb4 => have := HES.out; omega
                      case qb5 => simp; omega
                      intro v1 w7 q1 q2 _ _
                      obtain ⟨A1, c1, rfl⟩ := own_sl q1
                      obtain ⟨hkw, hb7, hsn⟩ := SB.name HSH.out hp hg (a := ⟨nm, jv⟩) q1 q2
                      have c7 : w7.cell? ⟨w.heap.size, 5, none⟩ = some vm := row_cell hb7 5
                      have f7 := row_free hb7 5
                      have HSN := Lib.hid hsn
                      clear q1 q2 hkw hb7 hsn c5
                      go_wp2_with fail
                      go_roundw
                      case rel => exact ⟨j + 1, es ++ [⟨nm, jv⟩], m2, _, by omega, by go_num, by simp [HES.out], HSN.out, HNX.out, HLM2.out⟩
                      case measure => simp [intOf]; omega
                · have HD2 := Lib.hid (show R = some (⟨ds, b, iv, es⟩, m') by
                    have := HPRE.out
                    rw [show n2 - j = 0 by omega, M.pre_zero] at this
                    rw [HRE.out, ← this])
                  clear HPRE
                  have hse := HSE.out
                  obtain ⟨Aa, ca, rfl⟩ := own_sl hse.2.2.2.1
                  obtain ⟨Am, cm, rfl⟩ := own_sl hse.2.2.2.2
                  have c0 : wr.cell? ⟨w.heap.size, 0, none⟩ = some (.slice Aa ds.length ca) := hse.cell 0
                  have c1 : wr.cell? ⟨w.heap.size, 1, none⟩ = some (.bool b) := hse.cell 1
                  have c2 : wr.cell? ⟨w.heap.size, 2, none⟩ = some (.bool iv.some) := hse.cell 2
                  have c3 : wr.cell? ⟨w.heap.size, 3, none⟩ = some (.int .i64 iv.lo) := hse.cell 3
                  have c4 : wr.cell? ⟨w.heap.size, 4, none⟩ = some (.int .i64 iv.hi) := hse.cell 4
                  have c5 : wr.cell? ⟨w.heap.size, 5, none⟩ = some (.slice Am es.length cm) := hse.cell 5
                  have f0 := hse.free 0
                  have f1 := hse.free 1
                  have f2 := hse.free 2
                  have f3 := hse.free 3
                  have f4 := hse.free 4
                  have f5 := hse.free 5
                  have HSE' := Lib.hid hse
                  clear hse
                  go_wp2_with fail
                  refine bodyPost_ret (v := .agg #[.slice Aa ds.length ca, .bool b, .bool iv.some, .int .i64 iv.lo, .int .i64 iv.hi, .slice Am es.length cm]) (by simp [results, Try.results55, go_sem, c0, c1, c2, c3, c4, c5]) rfl ?_
                  rw [HD2.out]
                  have hst := ((((((Keeps.refl [w.heap.size] wr).setCell (p := ⟨w.heap.size, 0, none⟩) (by simp) (.slice Aa ds.length ca)).setCell (p := ⟨w.heap.size, 1, none⟩) (by simp) (.bool b)).setCell (p := ⟨w.heap.size, 2, none⟩) (by simp) (.bool iv.some)).setCell (p := ⟨w.heap.size, 3, none⟩) (by simp) (.int .i64 iv.lo)).setCell (p := ⟨w.heap.size, 4, none⟩) (by simp) (.int .i64 iv.hi)).setCell (p := ⟨w.heap.size, 5, none⟩) (by simp) (.slice Am es.length cm)
                  obtain ⟨g1, A1, k1, e1, al, b1⟩ := own_als HSE'.out.2.2.2.1
                  obtain ⟨g2, A2, k2, e2, nl, b2⟩ := own_nms HSE'.out.2.2.2.2
                  cases e1
                  cases e2
                  exact ⟨_, rfl, ⟨g1, g2, _, _, _, _, rfl, al.keep hst (by simp; omega), nl.keep hst (by simp; omega), by omega, by omega⟩, HSE'.out.1.keep hst (by simp; omega) (by simp; omega), HSE'.out.2.1.trans hst (fun x hx hl => by simp at hx; omega)⟩
end Go.Proofs.Ytohmadfaaonaaaa
