/- With the merged texts: SClone -/
import Derived.Test.YtbanpdeganlndaaGreatDoorQ10
namespace Go.Proofs.YtbanpdeganlndaaGreatDoor
open Go.RowKit
open St (Tx As Ch)

theorem del_none {l : As} {k : Tx} (h : ∀ p ∈ l, p.1 ≠ k) : St.del l k = l := List.filter_eq_self.2 fun p hp => by simpa using h p hp
set_option maxRecDepth 100000 in
set_option maxHeartbeats 4000000 in
theorem clone_map (w : World) (mb : Nat) (l : As) (h : MapAt w mb ES l) (hl : l.length ≤ 1000000) :
    Calls Tryz.prog 19 #[.map (some mb)] w fun e w' => ∃ nb, e = .returned (.map (some nb)) ∧ w.heap.size ≤ nb ∧ MapAt w' nb ES l ∧ Keeps [] w w' := by
  have hmm := @run_makeMap Tryz.prog
  have hmb := h.lt
  have HK0 := Lib.hid (show Keeps [] w (w.alloc (.map #[] 0)) from (Keeps.refl _ _).alloc _)
  have HM := Lib.hid (h.keep HK0.out (by simp))
  have HN := Lib.hid (MapAt.made w ES)
  have HWS := Lib.hid (show (w.alloc (.map #[] 0)).heap.size = w.heap.size + 1 by simp)
  clear h
  go_enter Tryz.func19, Tryz.ntmps19
  go_wp2_with (at_range; refine wpList_range_map rfl _ rfl _ 31 rfl 9 Tryz.underlying31 mb ES l rfl HM.out ?_; intro w0 hrg0 hk0 hs0)
  have HRG0 := Lib.hid hrg0
  have HK1 := Lib.hid hk0
  have HS0 := Lib.hid hs0
  clear hrg0 hk0 hs0
  go_frame
  obtain ⟨rb, hrb⟩ : ∃ r, r = (w.alloc (.map #[] 0)).heap.size := ⟨_, rfl⟩
  rw [← hrb] at HRG0 HS0 ⊢
  have HRB := Lib.hid (show rb = w.heap.size + 1 by rw [hrb]; exact HWS.out)
  clear hrb
  go_loopw [] (fun wr => ∃ (todo done : As), MapAt wr w.heap.size ES done ∧ (done ++ todo).Perm l ∧ Ranging wr mb rb ES l todo ∧ Keeps [] w wr) (fun wr => wr.rangeLeft mb rb)
  case atStart => exact ⟨l, [], HN.out.keep HK1.out (by simp), by simp, HRG0.out, HK0.out.trans HK1.out (by simp)⟩
  case round =>
    obtain ⟨todo, done, hmd, hperm, hrg, hk⟩ := hrel
    have HMD := Lib.hid hmd
    have HP := Lib.hid hperm
    have HRG := Lib.hid hrg
    have HK := Lib.hid hk
    clear hmd hperm hk
    go_wp2_with (at_next; refine wpList_next_map rfl _ rfl _ rfl mb rb ES l todo rfl hrg ?_ ?_)
    · intro h0
      have HN0 := Lib.hid h0
      clear h0 hrg
      go_wp2_with fail
      go_ret
      exact ⟨_, rfl, Nat.le_refl _, HMD.out.perm (by have := HP.out; rw [HN0.out] at this; simpa using this), HK.out⟩
    · intro k v todo' w1 hp hmem hkl hrg1 hlt1 hk1 hs1 hen
      have hkey : St.Keyed (done ++ (k, v) :: todo') := St.keyed_perm HRG.out.map.1 ((List.Perm.append_left done hp).symm.trans HP.out).symm
      have HDN := Lib.hid (show St.del done k = done from del_none fun p hpm e => by
        unfold St.Keyed at hkey
        rw [List.map_append, List.nodup_append] at hkey
        exact hkey.2.2 p.1 (List.mem_map_of_mem hpm) k (by simp) e)
      have HPM := Lib.hid (show ((St.put done k v) ++ todo').Perm l by
        unfold St.put
        rw [HDN.out]
        exact ((List.perm_middle (a := (k, v)) (l₁ := done) (l₂ := todo')).symm.trans (List.Perm.append_left done hp.symm)).trans HP.out)
      have hdl : done.length < maxLen := by
        have := HP.out.length_eq
        rw [List.length_append] at this
        unfold maxLen; omega
      have HDL := Lib.hid hdl
      have HRG1 := Lib.hid hrg1
      have HLT1 := Lib.hid hlt1
      have hne : w.heap.size ≠ rb := by have := HRB.out; omega
      have HM1 := Lib.hid (HMD.out.keep hk1 (by simpa using hne))
      have HKL := Lib.hid hkl
      obtain ⟨ka, hka⟩ : ∃ a, a = strO k := ⟨_, rfl⟩
      obtain ⟨va, hva⟩ : ∃ a, a = strO v := ⟨_, rfl⟩
      have e1 : ES k v = .string va := by rw [hva]; rfl
      rw [← hka, e1] at hen
      rw [← hka, e1]
      have HKA := Lib.hid hka
      have HVA := Lib.hid hva
      have HK1r := Lib.hid (HK.out.fresh hk1 (by have := HRB.out; simp; omega))
      clear hp hmem hkl hrg1 hlt1 hk1 hs1 hka hva hrg hkey hdl e1
      go_wp2_with (at_mapUpdate; refine wpList_store_map rfl _ rfl _ _ _ 31 rfl 9 Tryz.underlying31 w.heap.size ES done rfl HM1.out HDL.out k v (congrArg Value.string HKA.out) (congrArg Value.string HVA.out) HKL.out ?_)
      intro w4 hm4 hk4
      have HM4 := Lib.hid hm4
      have HK4 := Lib.hid (HK1r.out.fresh hk4 (by simp))
      have hnr : rb ∉ [w.heap.size] := by simpa using fun e => hne e.symm
      have hnm : mb ∉ [w.heap.size] := by simp; omega
      have HRG4 := Lib.hid (HRG1.out.keep hk4 hnm hnr)
      have HLE := Lib.hid (rangeLeft_keep hk4 HRG1.out.map.lt HRG1.out.lt hnm hnr)
      clear hm4 hk4
      go_wp2_with fail
      go_roundw
      case rel => exact ⟨todo', St.put done k v, HM4.out, HPM.out, HRG4.out, HK4.out⟩
      case measure => rw [HLE.out]; exact HLT1.out
end Go.Proofs.YtbanpdeganlndaaGreatDoor
