/- Merged: SClone SDown -/
import Derived.Test.YtbanpdeganlndaaGreatDoorQ13
import Derived.Test.YtbanpdeganlndaaGreatDoorQ14
namespace Go.Proofs.YtbanpdeganlndaaGreatDoor
open Go.RowKit
open St (Tx As Ch)

theorem del_none {l : As} {k : Tx} (h : ∀ p ∈ l, p.1 ≠ k) : St.del l k = l := List.filter_eq_self.2 fun p hp => by simpa using h p hp
set_option maxRecDepth 100000 in
set_option maxHeartbeats 4000000 in
theorem clone_map (w : World) (mb : Nat) (l : As) (h : MapAt w mb ES l) (hl : l.length ≤ 1000000) :
    Calls Tryz.prog 19 #[.map (some mb)] w fun e w' => ∃ nb, e = .returned (.map (some nb)) ∧ w.heap.size ≤ nb ∧ MapAt w' nb ES l ∧ Keeps [] w w' := by
  have hmm := @run_makeMap Tryz.prog
  have hmb := h.lt
  have HK0 := Lib.hid (show Keeps [] w (w.alloc (.map #[] 0)) from (Keeps.refl _ _).alloc _)
  have HM := Lib.hid (h.keep HK0.out (by simp))
  have HN := Lib.hid (MapAt.made w ES)
  have HWS := Lib.hid (show (w.alloc (.map #[] 0)).heap.size = w.heap.size + 1 by simp)
  clear h
  go_enter Tryz.func19, Tryz.ntmps19
  go_wp2_with (at_range; refine wpList_range_map rfl _ rfl _ 31 rfl 9 Tryz.underlying31 mb ES l rfl HM.out ?_; intro w0 hrg0 hk0 hs0)
  have HRG0 := Lib.hid hrg0
  have HK1 := Lib.hid hk0
  have HS0 := Lib.hid hs0
  clear hrg0 hk0 hs0
  go_frame
  obtain ⟨rb, hrb⟩ : ∃ r, r = (w.alloc (.map #[] 0)).heap.size := ⟨_, rfl⟩
  rw [← hrb] at HRG0 HS0 ⊢
  have HRB := Lib.hid (show rb = w.heap.size + 1 by rw [hrb]; exact HWS.out)
  clear hrb
  go_loopw [] (fun wr => ∃ (todo done : As), MapAt wr w.heap.size ES done ∧ (done ++ todo).Perm l ∧ Ranging wr mb rb ES l todo ∧ Keeps [] w wr) (fun wr => wr.rangeLeft mb rb)
  case atStart => exact ⟨l, [], HN.out.keep HK1.out (by simp), by simp, HRG0.out, HK0.out.trans HK1.out (by simp)⟩
  case round =>
    obtain ⟨todo, done, hmd, hperm, hrg, hk⟩ := hrel
    have HMD := Lib.hid hmd
    have HP := Lib.hid hperm
    have HRG := Lib.hid hrg
    have HK := Lib.hid hk
    clear hmd hperm hk
    go_wp2_with (at_next; refine wpList_next_map rfl _ rfl _ rfl mb rb ES l todo rfl hrg ?_ ?_)
    · intro h0
      have HN0 := Lib.hid h0
      clear h0 hrg
      go_wp2_with fail
      go_ret
      exact ⟨_, rfl, Nat.le_refl _, HMD.out.perm (by have := HP.out; rw [HN0.out] at this; simpa using this), HK.out⟩
    · intro k v todo' w1 hp hmem hkl hrg1 hlt1 hk1 hs1 hen
      have hkey : St.Keyed (done ++ (k, v) :: todo') := St.keyed_perm HRG.out.map.1 ((List.Perm.append_left done hp).symm.trans HP.out).symm
      have HDN := Lib.hid (show St.del done k = done from del_none fun p hpm e => by
        unfold St.Keyed at hkey
        rw [List.map_append, List.nodup_append] at hkey
        exact hkey.2.2 p.1 (List.mem_map_of_mem hpm) k (by simp) e)
      have HPM := Lib.hid (show ((St.put done k v) ++ todo').Perm l by
        unfold St.put
        rw [HDN.out]
        exact ((List.perm_middle (a := (k, v)) (l₁ := done) (l₂ := todo')).symm.trans (List.Perm.append_left done hp.symm)).trans HP.out)
      have hdl : done.length < maxLen := by
        have := HP.out.length_eq
        rw [List.length_append] at this
        unfold maxLen; omega
      have HDL := Lib.hid hdl
      have HRG1 := Lib.hid hrg1
      have HLT1 := Lib.hid hlt1
      have hne : w.heap.size ≠ rb := by have := HRB.out; omega
      have HM1 := Lib.hid (HMD.out.keep hk1 (by simpa using hne))
      have HKL := Lib.hid hkl
      obtain ⟨ka, hka⟩ : ∃ a, a = strO k := ⟨_, rfl⟩
      obtain ⟨va, hva⟩ : ∃ a, a = strO v := ⟨_, rfl⟩
      have e1 : ES k v = .string va := by rw [hva]; rfl
      rw [← hka, e1] at hen
      rw [← hka, e1]
      have HKA := Lib.hid hka
      have HVA := Lib.hid hva
      have HK1r := Lib.hid (HK.out.fresh hk1 (by have := HRB.out; simp; omega))
      clear hp hmem hkl hrg1 hlt1 hk1 hs1 hka hva hrg hkey hdl e1
      go_wp2_with (at_mapUpdate; refine wpList_store_map rfl _ rfl _ _ _ 31 rfl 9 Tryz.underlying31 w.heap.size ES done rfl HM1.out HDL.out k v (congrArg Value.string HKA.out) (congrArg Value.string HVA.out) HKL.out ?_)
      intro w4 hm4 hk4
      have HM4 := Lib.hid hm4
      have HK4 := Lib.hid (HK1r.out.fresh hk4 (by simp))
      have hnr : rb ∉ [w.heap.size] := by simpa using fun e => hne e.symm
      have hnm : mb ∉ [w.heap.size] := by simp; omega
      have HRG4 := Lib.hid (HRG1.out.keep hk4 hnm hnr)
      have HLE := Lib.hid (rangeLeft_keep hk4 HRG1.out.map.lt HRG1.out.lt hnm hnr)
      clear hm4 hk4
      go_wp2_with fail
      go_roundw
      case rel => exact ⟨todo', St.put done k v, HM4.out, HPM.out, HRG4.out, HK4.out⟩
      case measure => rw [HLE.out]; exact HLT1.out
end Go.Proofs.YtbanpdeganlndaaGreatDoor
namespace Go.Proofs.YtbanpdeganlndaaGreatDoor
open Go.RowKit
open Reg (Is Fact)
open St (Tx As Ch)

/-- Few changes of the statements' size: what they make. -/
theorem few_apps {cs : List Ch} (h : ∀ c ∈ cs, c.key ∈ St.ks ∧ c.size ≤ 258) (hl : cs.length ≤ 1000) :
    (∀ p ∈ St.apps [] cs, p.1 ∈ St.ks) ∧ St.size (St.apps [] cs) ≤ 1000000 ∧ (St.apps [] cs).length ≤ 1000 ∧ St.Keyed (St.apps [] cs) := by
  have h1 := size_apps (k := 258) cs [] (fun c hc => (h c hc).2)
  have h2 := len_apps cs []
  have e : St.size [] = 0 := rfl
  refine ⟨St.keys_apps (by simp) (fun c hc => (h c hc).1), by omega, ?_, St.keyed_apps St.keyed_nil cs⟩
  simp at h2
  omega
theorem mkc_few {i : Nat} {ps : List LP} : ∀ c ∈ mkc i ps, c.key ∈ St.ks ∧ c.size ≤ 258 := fun c hc => ⟨(mkc_ok c hc).1, mkc_csize c hc⟩
section
variable {w0 w w' : World} {h : DH} {B : Nat → Prop} {lp sp mb : Nat} {d : Dk} {g : Lg} {cs next : List Ch} {l : As} {N s : Nat}
theorem SR.cut (r : SR w0 w h B lp d g sp mb cs l N s) (n : Nat) (hn : n ≤ 1000) : Calls Tryz.prog 18 #[.pointer (some ⟨h.p, 3, none⟩), .int .i64 (n : Int)] w fun e w' => e = .returned (.tuple #[]) ∧ Keeps [h.p] w w' ∧ SR w0 w' h B lp (d.cutIn n) g sp mb cs l N s := by
  refine (r.gr.cut n hn).mono ?_
  rintro e w' ⟨rfl, hk, hg⟩
  have h1 : sp ≠ h.p := fun e => r.sep.2.2.1 (by simp [DH.l, e])
  have h2 : mb ≠ h.p := fun e => r.sep.2.2.2 (by simp [DH.l, e])
  exact ⟨rfl, hk, hg, r.st.keep hk (by simpa using h1) (by simpa using h2), r.eq, r.new, r.sep⟩
theorem SR.beside (r : SR w0 w h B lp d g sp mb cs l N s) {x : Nat} (hk : Keeps [x] w w') (hx : x ∉ mb :: sp :: lp :: h.l) (hB : ¬ B x) (h0 : w0.heap.size ≤ x) : SR w0 w' h B lp d g sp mb cs l N s :=
  ⟨r.gr.beside hk (fun hm => hx (by simp at hm ⊢; exact .inr (.inr hm))) hB h0, r.st.keep hk (fun hm => hx (List.mem_singleton.1 hm ▸ (by simp : sp ∈ mb :: sp :: lp :: h.l))) (fun hm => hx (List.mem_singleton.1 hm ▸ (by simp : mb ∈ mb :: sp :: lp :: h.l))), r.eq, r.new, r.sep⟩
end
/-- Behind a crash: a store of the old pairs or of the new ones. -/
def Back (w0 w' : World) (h : DH) (cs next : List Ch) (N s : Nat) (sp mb lp : Nat) : Prop :=
  ∃ rec B d g, (rec = cs ∨ rec = next) ∧ Lit_ d ∧ SR w0 w' h B lp d g sp mb rec (St.apps [] rec) N s
theorem crash_open {w0 w : World} {h : DH} {B : Nat → Prop} {d : Dk} {cs next : List Ch} {N s : Nat} (x : GD w0 w h B d (cs.map St.rec) (next.map St.rec) N s) (keep : Nat) (hkeep : keep < 18446744073709551616) (hN : 16 ≤ N) (hsz : 128 ≤ s)
    (hs : ∀ c ∈ cs, c.size ≤ 1048512) (hl : cs.length ≤ 100000) (hs' : ∀ c ∈ next, c.size ≤ 1048512) (hl' : next.length ≤ 100000) :
    Calls Tryz.prog 20 #[.pointer (some ⟨h.p, 0, none⟩), .int .u64 (keep : Int), .int .i64 (-1), .int .i64 0] w fun e w1 => e = .returned (.tuple #[]) ∧ Keeps h.l w w1 ∧
      Calls Tryz.prog 12 #[.pointer (some ⟨h.p, 0, none⟩)] w1 fun e w2 => ∃ sp mb lp, e = .returned (.tuple #[.pointer (some ⟨sp, 0, none⟩), .int .i64 0]) ∧ Back w0 w2 h cs next N s sp mb lp ∧ Keeps h.l w1 w2 := by
  refine (x.crash keep hkeep).mono ?_
  rintro e w1 ⟨rfl, hk, rec, hrec, hf⟩
  refine ⟨rfl, hk, ?_⟩
  rcases hrec with rfl | rfl
  · refine (hf.sopens hN hsz hs hl).mono ?_
    rintro e w2 ⟨sp, mb, lp, B', d', g', rfl, hlit, _, hsr, hk2, _, _⟩
    exact ⟨sp, mb, lp, rfl, ⟨cs, B', d', g', .inl rfl, hlit, hsr⟩, hk2⟩
  · refine (hf.sopens hN hsz hs' hl').mono ?_
    rintro e w2 ⟨sp, mb, lp, B', d', g', rfl, hlit, _, hsr, hk2, _, _⟩
    exact ⟨sp, mb, lp, rfl, ⟨next, B', d', g', .inr rfl, hlit, hsr⟩, hk2⟩
theorem nsec_ten {cs : List Ch} (h : ∀ c ∈ cs, c.key.length ≤ 40 ∧ c.val.length ≤ 255) (hl : cs.length ≤ 10) : L.nsec (cs.map St.rec) 512 ≤ 7 := by
  have h1 := L.nsec_bound (s := 512) (rs := cs.map St.rec) (by omega)
  have h2 := body_recs h (by omega)
  omega
set_option maxRecDepth 100000 in
set_option maxHeartbeats 16000000 in
theorem sdown_any (w : World) (ht : TabAt w) (hp : 1 < w.heap.size) (g1 cap1 g2 cap2 cut keep : Nat) (A1 A2 : Option Addr) (a b : List LP) (hr1 : LPsIn w g1 A1 a) (hr2 : LPsIn w g2 A2 b) (hcut : cut < 256) (hkeep : keep < 18446744073709551616) :
    Calls Tryz.prog 8 #[.slice A1 a.length cap1, .slice A2 b.length cap2, .int .u8 (cut : Int), .int .u64 (keep : Int)] w fun e w' => e = .returned (.bool true) ∧ Keeps [] w w' := by
  have HT := Lib.hid ht
  have HR1 := Lib.hid hr1
  have HR2 := Lib.hid hr2
  have HKP := Lib.hid hkeep
  have HKN := Lib.hid (sknown_any w ht hp)
  clear ht hr1 hr2 hkeep
  have hmm := @run_makeMap Tryz.prog
  by_cases hsmall : a.length ≤ 10 ∧ b.length ≤ 10 ∧ b.length ≠ 0
  · obtain ⟨ha, hb, hb0⟩ := hsmall
    have e1 : decide ((10 : Int) < (a.length : Int)) = false := by simp; omega
    have e2 : decide ((10 : Int) < (b.length : Int)) = false := by simp; omega
    have e3 : ((b.length : Int) == 0) = false := by simpa using hb0
    have e3d : decide ((b.length : Int) = 0) = false := by simpa using hb0
    go_enter Tryz.func8, Tryz.ntmps8
    go_wp2_with fail
    refine HKN.out.mono ?_
    rintro e w1 ⟨rfl, hk1⟩
    have HK1 := Lib.hid hk1
    have HN := Lib.hid (newD_any w1 400 512 (by omega) (by omega))
    clear hk1
    go_wp2_with fail
    refine HN.out.mono ?_
    intro e w2 hnew
    obtain ⟨h, rfl, ho⟩ := sr_new HK1.out HT.out hp hnew (by omega) (by omega)
    have HO := Lib.hid ho
    clear hnew ho
    go_wp2_with fail
    refine HO.out.mono ?_
    rintro e w3 ⟨sp, mb, lp, B, d, g, rfl, hlit, hu, hsr, hk3⟩
    have HLIT := Lib.hid hlit
    have HU := Lib.hid hu
    have hkm : Keeps [] w3 (w3.alloc (.map #[] 0)) := (Keeps.refl _ _).alloc _
    have HKM := Lib.hid hkm
    have HSR := Lib.hid hsr
    have HK3 := Lib.hid (hk3.trans hkm (by simp))
    have HMM := Lib.hid (MapAt.made w3 ES)
    have hsz3 := hk3.size
    clear hlit hu hsr hk3
    have HR4 := Lib.hid (HR1.out.keep HK3.out (by simp))
    have HPA := Lib.hid (pairs_any _ 1 g1 w3.heap.size cap1 A1 a [] HR4.out HMM.out (by omega) (by omega) (by simp) (HR1.out.low.imp id (fun hg => by omega)))
    have HMS := Lib.hid hkm.size
    clear hkm hsz3
    go_wp2_with fail
    refine HPA.out.mono ?_
    rintro e w5 ⟨A5, c5, g5, rfl, hpi, hg5, hm5, hk5⟩
    have HPI := Lib.hid hpi
    have HK35 := Lib.hid (HKM.out.fresh hk5 (by simp))
    have HM5 := Lib.hid hm5
    have hlow := HSR.out.low
    have HAP := Lib.hid ((HSR.out.step HK35.out).apply c5 HPI.out ((Classical.em (mkc 1 a = [])).imp id (fun hne hm => by have := hlow _ hm; have := hg5 hne; have := HMS.out; omega)) mkc_size (by rw [mkc_len]; omega) (by simp) (by simp)
      (by have := body_recs (cs := mkc 1 a) mkc_small (by rw [mkc_len]; omega); rw [mkc_len] at this; omega)
      (by rw [HU.out, scap400]; exact fit_recs (k := 20) (by omega) mkc_small (by rw [mkc_len]; omega) (by omega)))
    have HLOW := Lib.hid hlow
    clear hpi hg5 hm5 hk5 hlow
    rw [mkc_len] at *
    go_wp2_with fail
    refine HAP.out.mono ?_
    rintro e w6 ⟨m, rfl, hk6, hout⟩
    obtain ⟨rfl, B6, d6, hlit6, hsr6⟩ := hout.lit HLIT.out
    have HSR6 := Lib.hid hsr6
    have HM6 := Lib.hid (HM5.out.keep hk6 (fun hm => by have := HLOW.out _ hm; omega))
    have HCL := Lib.hid (clone_map w6 w3.heap.size _ HM6.out (by have := (few_apps (mkc_few (i := 1) (ps := a)) (by rw [mkc_len]; omega)).2.2.1; omega))
    clear hk6 hout hsr6 hlit6
    go_wp2_with fail
    refine HCL.out.mono ?_
    rintro e w7 ⟨nb, rfl, hnb, hn7, hk7⟩
    have HSR7 := Lib.hid (HSR6.out.step hk7)
    have HM7 := Lib.hid (HM6.out.keep hk7 (by simp))
    have HN7 := Lib.hid hn7
    have HNB := Lib.hid hnb
    obtain ⟨c, hcc⟩ : ∃ c, c = cut % 3 := ⟨_, rfl⟩
    have ec : (cut : Int) % 3 = (c : Int) := by omega
    have hc3 : c < 3 := by omega
    have HCU := Lib.hid (HSR7.out.cut c (by omega))
    clear hn7 hk7 hcc hnb
    go_wp2_with fail
    refine HCU.out.mono ?_
    rintro e w8 ⟨rfl, hk8, hsr8⟩
    have HSR8 := Lib.hid hsr8
    have hph : h.p ∈ mb :: sp :: lp :: h.l := by simp [DH.l]
    have h86 : w6.heap.size ≤ w8.heap.size := by have := HSR7.out.gr.live.disk.lt; have := hk8.size; have := HN7.out.lt; have := HNB.out; omega
    have HM8 := Lib.hid (HM7.out.keep hk8 (fun hm => by
      have : w3.heap.size = h.p := by simpa using hm
      have := HLOW.out h.p hph
      omega))
    have hpn : h.p ≠ nb := by have := HLOW.out h.p hph; have := HNB.out; have := HM6.out.lt; omega
    have HN8 := Lib.hid (HN7.out.keep hk8 (by simpa using fun e => hpn e.symm))
    have h60 := HSR6.out.gr.keeps.size
    have HR8 := Lib.hid (HR2.out.keep HSR8.out.gr.keeps (by simp))
    have hfa := few_apps (mkc_few (i := 1) (ps := a)) (by rw [mkc_len]; omega)
    have HPB := Lib.hid (pairs_any w8 2 g2 nb cap2 A2 b _ HR8.out HN8.out (by omega) (by omega) (by have := hfa.2.2.1; omega) (HR2.out.low.imp id (fun hg => by have := HNB.out; omega)))
    have HNX := Lib.hid (show nb ∉ mb :: sp :: lp :: h.l from fun hm => by have := HLOW.out nb hm; have := HM6.out.lt; have := HNB.out; omega)
    have HNBB := Lib.hid (show ¬ B6 nb from fun hq => by have := HSR6.out.gr.live.disk.low nb hq; have := HNB.out; omega)
    have HNW := Lib.hid (show w.heap.size ≤ nb by have := HNB.out; omega)
    have HMN := Lib.hid (show w3.heap.size ≠ nb by have := HNB.out; have := HM6.out.lt; omega)
    have HFA := Lib.hid hfa
    clear hsr8 hk8 hph h86 hpn h60 hfa
    go_wp2_with fail
    refine HPB.out.mono ?_
    rintro e w9 ⟨A9, c9, g9, rfl, hpi9, hg9, hn9, hk9⟩
    have HSR9 := Lib.hid (HSR8.out.beside hk9 HNX.out HNBB.out HNW.out)
    have HM9 := Lib.hid (HM8.out.keep hk9 (by simpa using HMN.out))
    have HN9 := Lib.hid hn9
    have hu6 := nsec_ten (cs := mkc 1 a) mkc_small (by rw [mkc_len]; omega)
    have HAQ := Lib.hid (HSR9.out.apply c9 hpi9 ((Classical.em (mkc 2 b = [])).imp id (fun hne hm => by have := HSR8.out.low _ hm; have := hg9 hne; omega)) mkc_size (by rw [mkc_len]; omega) (by rw [List.nil_append, mkc_len]; omega) (by have := HFA.out.2.2.1; omega)
      (by have := body_recs (cs := mkc 2 b) mkc_small (by rw [mkc_len]; omega); rw [mkc_len] at this; omega)
      (by rw [scap400]; exact fit_recs (k := 10) (by omega) mkc_small (by rw [mkc_len]; omega) (by have := HU.out; show _ < (198 - (g.used + L.nsec ((mkc 1 a).map St.rec) 512) + 1) * 512; omega)))
    clear hpi9 hg9 hn9 hk9 hu6
    rw [mkc_len] at HAQ ⊢
    go_wp2_with fail
    refine HAQ.out.mono ?_
    rintro e w10 ⟨m, rfl, hk10, hout⟩
    have HM10 := Lib.hid (HM9.out.keep hk10 (fun hm => by have := HLOW.out _ hm; omega))
    have HN10 := Lib.hid (HN9.out.keep hk10 HNX.out)
    have HFB := Lib.hid (few_apps (cs := mkc 1 a ++ mkc 2 b) (fun c hc => (List.mem_append.1 hc).elim (mkc_few c) (mkc_few c)) (by rw [List.length_append, mkc_len, mkc_len]; omega))
    have hsz1 : ∀ c ∈ mkc 1 a, c.size ≤ 1048512 := mkc_size
    have hsz2 : ∀ c ∈ mkc 1 a ++ mkc 2 b, c.size ≤ 1048512 := fun c hc => (List.mem_append.1 hc).elim (mkc_size c) (mkc_size c)
    have HSZ := Lib.hid (And.intro hsz1 hsz2)
    have HLN := Lib.hid (show (mkc 1 a).length ≤ 100000 ∧ (mkc 1 a ++ mkc 2 b).length ≤ 100000 by rw [List.length_append, mkc_len, mkc_len]; omega)
    rw [List.nil_append, ← St.apps_append] at hout
    rw [← St.apps_append] at HN10
    clear hk10 hsz1 hsz2
    rcases hout with ⟨rfl, B10, d10, _, hsr10⟩ | ⟨rfl, _, B10, d10, hd10, hsn10⟩
    · have HSR10 := Lib.hid hsr10
      have HAL := Lib.hid (alike_any w10 sp mb lp nb false _ _ HSR10.out.st HN10.out HFB.out.1 HFB.out.1 HFB.out.2.1 HFB.out.2.2.1 HFB.out.2.1)
      rw [same_perm HFB.out.2.2.2 (List.Perm.refl _)] at HAL
      clear hsr10
      go_wp2_with fail
      refine HAL.out.mono ?_
      rintro e w11 ⟨rfl, hk11⟩
      have HCO := Lib.hid (crash_open (cs := mkc 1 a ++ mkc 2 b) (next := mkc 1 a ++ mkc 2 b) (HSR10.out.step hk11).gr.dead keep HKP.out (by omega) (by omega) HSZ.out.2 HLN.out.2 HSZ.out.2 HLN.out.2)
      have HN11 := Lib.hid (HN10.out.keep hk11 (by simp))
      clear hk11
      go_wp2_with fail
      refine HCO.out.mono ?_
      rintro e w12 ⟨rfl, hk12, hop⟩
      have HOP := Lib.hid hop
      have HNH := Lib.hid (show nb ∉ h.l from fun hm => HNX.out (by simp [hm]))
      have HN12 := Lib.hid (HN11.out.keep hk12 HNH.out)
      clear hk12 hop
      go_wp2_with fail
      refine HOP.out.mono ?_
      rintro e w13 ⟨sp2, mb2, lp2, rfl, hback, hk13⟩
      obtain ⟨rec, B13, d13, g13, hrec, _, hsr13⟩ := hback
      have hrec' : rec = mkc 1 a ++ mkc 2 b := hrec.elim id id
      subst hrec'
      have HSR13 := Lib.hid hsr13
      have HN13 := Lib.hid (HN12.out.keep hk13 HNH.out)
      have HAL2 := Lib.hid (alike_any w13 sp2 mb2 lp2 nb false _ _ HSR13.out.st HN13.out HFB.out.1 HFB.out.1 HFB.out.2.1 HFB.out.2.2.1 HFB.out.2.1)
      rw [same_perm HFB.out.2.2.2 (List.Perm.refl _)] at HAL2
      have HK13 := Lib.hid HSR13.out.gr.keeps
      clear hrec hsr13 hk13
      go_wp2_with fail
      refine HAL2.out.mono ?_
      rintro e w14 ⟨rfl, hk14⟩
      go_wp2_with fail
      go_ret
      exact ⟨rfl, HK13.out.trans hk14 (by simp)⟩
    · have HSN10 := Lib.hid hsn10
      have HDN := Lib.hid (down_any w10 sp mb lp true _ HSN10.out.st)
      clear hsn10 hd10
      go_wp2_with fail
      refine HDN.out.mono ?_
      rintro e w11 ⟨rfl, rfl⟩
      have HAL := Lib.hid (alike_any w10 sp mb lp w3.heap.size true _ _ HSN10.out.st HM10.out HFA.out.1 HFA.out.1 HFA.out.2.1 HFA.out.2.2.1 HFA.out.2.1)
      rw [same_perm HFA.out.2.2.2 (List.Perm.refl _)] at HAL
      go_wp2_with fail
      refine HAL.out.mono ?_
      rintro e w11 ⟨rfl, hk11⟩
      have hka : Keeps [] w11 (w11.alloc (.cells #[.string ⟨#[97]⟩, .string ⟨#[]⟩, .bool false] 66)) := (Keeps.refl _ _).alloc _
      have hk12 := hk11.trans hka (by simp)
      have HSN12 := Lib.hid (HSN10.out.step hk12)
      have HM12 := Lib.hid (HM10.out.keep hk12 (by simp))
      have HN12 := Lib.hid (HN10.out.keep hk12 (by simp))
      have HAD := Lib.hid (apply_down _ sp mb lp _ (.slice (some ⟨w11.heap.size, 0, none⟩) 1 1) HSN12.out.st)
      clear hk11 hka hk12
      go_wp2_with fail
      refine HAD.out.mono ?_
      rintro e w12 ⟨rfl, rfl⟩
      obtain ⟨w12, hw12⟩ : ∃ w12, w12 = w11.alloc (.cells #[.string ⟨#[97]⟩, .string ⟨#[]⟩, .bool false] 66) := ⟨_, rfl⟩
      rw [← hw12] at HSN12 HM12 HN12 ⊢
      have HAL2 := Lib.hid (alike_any w12 sp mb lp w3.heap.size true _ _ HSN12.out.st HM12.out HFA.out.1 HFA.out.1 HFA.out.2.1 HFA.out.2.2.1 HFA.out.2.1)
      rw [same_perm HFA.out.2.2.2 (List.Perm.refl _)] at HAL2
      clear hw12 HAD
      go_wp2_with fail
      refine HAL2.out.mono ?_
      rintro e w13 ⟨rfl, hk13⟩
      have HCO := Lib.hid (crash_open (cs := mkc 1 a) (next := mkc 1 a ++ mkc 2 b) ((HSN12.out.step hk13).gd) keep HKP.out (by omega) (by omega) HSZ.out.1 HLN.out.1 HSZ.out.2 HLN.out.2)
      have HN13 := Lib.hid (HN12.out.keep hk13 (by simp))
      have HM13 := Lib.hid (HM12.out.keep hk13 (by simp))
      have HNH := Lib.hid (show nb ∉ h.l from fun hm => HNX.out (by simp [hm]))
      have HMH := Lib.hid (show w3.heap.size ∉ h.l from fun hm => by have := HLOW.out w3.heap.size (by simp [hm]); omega)
      clear hk13
      go_wp2_with fail
      refine HCO.out.mono ?_
      rintro e w14 ⟨rfl, hk14, hop⟩
      have HOP := Lib.hid hop
      have HN14 := Lib.hid (HN13.out.keep hk14 HNH.out)
      have HM14 := Lib.hid (HM13.out.keep hk14 HMH.out)
      clear hk14 hop
      go_wp2_with fail
      refine HOP.out.mono ?_
      rintro e w15 ⟨sp2, mb2, lp2, rfl, hback, hk15⟩
      obtain ⟨rec, B15, d15, g15, hrec, _, hsr15⟩ := hback
      have HSR15 := Lib.hid hsr15
      have HN15 := Lib.hid (HN14.out.keep hk15 HNH.out)
      have HM15 := Lib.hid (HM14.out.keep hk15 HMH.out)
      have HK15 := Lib.hid HSR15.out.gr.keeps
      have HFR := Lib.hid (show (∀ p ∈ St.apps [] rec, p.1 ∈ St.ks) ∧ St.size (St.apps [] rec) ≤ 1000000 ∧ (St.apps [] rec).length ≤ 1000 ∧ St.Keyed (St.apps [] rec) by
        rcases hrec with h | h
        · rw [h]; exact HFA.out
        · rw [h]; exact HFB.out)
      have HREC := Lib.hid hrec
      have HAL3 := Lib.hid (alike_any w15 sp2 mb2 lp2 nb false _ _ HSR15.out.st HN15.out HFR.out.1 HFB.out.1 HFR.out.2.1 HFR.out.2.2.1 HFB.out.2.1)
      obtain ⟨r, hr⟩ : ∃ r, r = same7 (St.apps [] rec) (St.apps [] (mkc 1 a ++ mkc 2 b)) := ⟨_, rfl⟩
      rw [← hr] at HAL3
      have HR := Lib.hid hr
      clear hr hrec hsr15 hk15
      cases r with
      | true =>
        go_wp2_with fail
        refine HAL3.out.mono ?_
        rintro e w16 ⟨rfl, hk16⟩
        have HK16 := Lib.hid hk16
        clear hk16
        go_wp2_with fail
        go_ret
        exact ⟨rfl, HK15.out.trans HK16.out (by simp)⟩
      | false =>
        have hrc : rec = mkc 1 a := HREC.out.elim id (fun e => by
          have := HR.out
          rw [e, same_perm HFB.out.2.2.2 (List.Perm.refl _)] at this
          cases this)
        subst hrc
        go_wp2_with fail
        refine HAL3.out.mono ?_
        rintro e w16 ⟨rfl, hk16⟩
        have HK16 := Lib.hid hk16
        have HAL4 := Lib.hid (alike_any w16 sp2 mb2 lp2 w3.heap.size false _ _ (HSR15.out.st.keep0 hk16) (HM15.out.keep hk16 (by simp)) HFA.out.1 HFA.out.1 HFA.out.2.1 HFA.out.2.2.1 HFA.out.2.1)
        rw [same_perm HFA.out.2.2.2 (List.Perm.refl _)] at HAL4
        clear hk16
        go_wp2_with fail
        refine HAL4.out.mono ?_
        rintro e w17 ⟨rfl, hk17⟩
        go_wp2_with fail
        go_ret
        exact ⟨rfl, (HK15.out.trans HK16.out (by simp)).trans hk17 (by simp)⟩
  · have HS := Lib.hid hsmall
    clear hsmall
    by_cases ha : a.length ≤ 10
    · have e1 : decide ((10 : Int) < (a.length : Int)) = false := by simp; omega
      by_cases hb : b.length ≤ 10
      · have e2 : decide ((10 : Int) < (b.length : Int)) = false := by simp; omega
        have e0 : b.length = 0 := by
          have := HS.out
          by_cases h0 : b.length = 0
          · exact h0
          · exact absurd ⟨ha, hb, h0⟩ this
        have e3 : ((b.length : Int) == 0) = true := by simpa using e0
        have e3d : decide ((b.length : Int) = 0) = true := by simpa using e0
        go_enter Tryz.func8, Tryz.ntmps8
        go_wp2_with fail
        refine HKN.out.mono ?_
        rintro e w1 ⟨rfl, hk1⟩
        have HK1 := Lib.hid hk1
        clear hk1
        go_wp2_with fail
        go_ret
        exact ⟨rfl, HK1.out⟩
      · have e2 : decide ((10 : Int) < (b.length : Int)) = true := by simp; omega
        go_enter Tryz.func8, Tryz.ntmps8
        go_wp2_with fail
        refine HKN.out.mono ?_
        rintro e w1 ⟨rfl, hk1⟩
        have HK1 := Lib.hid hk1
        clear hk1
        go_wp2_with fail
        go_ret
        exact ⟨rfl, HK1.out⟩
    · have e1 : decide ((10 : Int) < (a.length : Int)) = true := by simp; omega
      go_enter Tryz.func8, Tryz.ntmps8
      go_wp2_with fail
      refine HKN.out.mono ?_
      rintro e w1 ⟨rfl, hk1⟩
      have HK1 := Lib.hid hk1
      clear hk1
      go_wp2_with fail
      go_ret
      exact ⟨rfl, HK1.out⟩
end Go.Proofs.YtbanpdeganlndaaGreatDoor
