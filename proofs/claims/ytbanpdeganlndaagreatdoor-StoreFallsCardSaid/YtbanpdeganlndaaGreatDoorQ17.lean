/- Merged: FShelf SCmp SPrs -/
import Derived.Shelf.SlSortCmp.WholeK
import Derived.Shelf.SlSortCmp.NoneTotal
import Derived.Ground.SlsfProg
import Derived.Ground.NamesProg
import Derived.Shelf.Small.Strs
import Derived.Test.YtbanpdeganlndaaGreatDoorProg
import Derived.Test.YtbanpdeganlndaaGreatDoorQ16
import Derived.Test.YtbanpdeganlndaaGreatDoorQ13
namespace Go.Proofs
open Go.Shelf
def Tryz.strCompare_ren : Go.Shelf.Ren := ⟨fun | 106 => 58 | 213 => 91 | 265 => 129 | n => n, fun | 9 => 9 | 3 => 3 | n => n, fun | n => n⟩
theorem Tryz.strCompare : Go.Proofs.Lays.n106 Tryz.prog Tryz.strCompare_ren := {
  mixed := by kernel_rfl
  f106 := Tryz.func58.trans (congrArg some (by kernel_rfl))
  f213 := Tryz.func91.trans (congrArg some (by kernel_rfl))
  f265 := Tryz.func129.trans (congrArg some (by kernel_rfl))
  t3 := Tryz.underlying3
  a3 := Tryz.isAgg3
  z3 := Tryz.sizeOf3
  v3 := Tryz.zeroValue3
  t9 := Tryz.underlying9
  a9 := Tryz.isAgg9
  z9 := Tryz.sizeOf9
  v9 := Tryz.zeroValue9 }
def Tryz.sortF_ren : Go.Shelf.Ren := ⟨fun | 6 => 89 | 15 => 67 | 14 => 128 | 28 => 107 | 29 => 108 | 20 => 146 | 21 => 147 | 22 => 148 | 23 => 149 | 24 => 150 | 25 => 151 | 26 => 152 | 27 => 153 | 46 => 164 | 47 => 133 | 48 => 134 | 49 => 165 | 50 => 166 | 57 => 171 | n => n, fun | 22 => 37 | 24 => 66 | 25 => 115 | 3 => 3 | 39 => 94 | 0 => 0 | 53 => 127 | 55 => 47 | 4 => 4 | 46 => 156 | 45 => 155 | 50 => 160 | 5 => 5 | 9 => 9 | 66 => 193 | 70 => 197 | 76 => 219 | 77 => 220 | n => n, fun | n => n⟩
theorem Tryz.sortF : Go.Proofs.SlLaysF0.n6 Tryz.prog Tryz.sortF_ren := {
  mixed := by kernel_rfl
  f6 := ⟨Tryz.f89.name, by decide, Tryz.func89.trans (congrArg some (by kernel_rfl))⟩
  f14 := ⟨Tryz.f128.name, by decide, Tryz.func128.trans (congrArg some (by kernel_rfl))⟩
  f15 := Tryz.func67.trans (congrArg some (by kernel_rfl))
  f20 := ⟨Tryz.f146.name, by decide, Tryz.func146.trans (congrArg some (by kernel_rfl))⟩
  f21 := ⟨Tryz.f147.name, by decide, Tryz.func147.trans (congrArg some (by kernel_rfl))⟩
  f22 := ⟨Tryz.f148.name, by decide, Tryz.func148.trans (congrArg some (by kernel_rfl))⟩
  f23 := ⟨Tryz.f149.name, by decide, Tryz.func149.trans (congrArg some (by kernel_rfl))⟩
  f24 := ⟨Tryz.f150.name, by decide, Tryz.func150.trans (congrArg some (by kernel_rfl))⟩
  f25 := ⟨Tryz.f151.name, by decide, Tryz.func151.trans (congrArg some (by kernel_rfl))⟩
  f26 := ⟨Tryz.f152.name, by decide, Tryz.func152.trans (congrArg some (by kernel_rfl))⟩
  f27 := ⟨Tryz.f153.name, by decide, Tryz.func153.trans (congrArg some (by kernel_rfl))⟩
  f28 := Tryz.func107.trans (congrArg some (by kernel_rfl))
  f29 := Tryz.func108.trans (congrArg some (by kernel_rfl))
  f46 := ⟨Tryz.f164.name, by decide, Tryz.func164.trans (congrArg some (by kernel_rfl))⟩
  f47 := Tryz.func133.trans (congrArg some (by kernel_rfl))
  f48 := Tryz.func134.trans (congrArg some (by kernel_rfl))
  f49 := ⟨Tryz.f165.name, by decide, Tryz.func165.trans (congrArg some (by kernel_rfl))⟩
  f50 := ⟨Tryz.f166.name, by decide, Tryz.func166.trans (congrArg some (by kernel_rfl))⟩
  f57 := ⟨Tryz.f171.name, by decide, Tryz.func171.trans (congrArg some (by kernel_rfl))⟩
  t0 := Tryz.underlying0
  a0 := Tryz.isAgg0
  z0 := Tryz.sizeOf0
  v0 := Tryz.zeroValue0
  t3 := Tryz.underlying3
  a3 := Tryz.isAgg3
  z3 := Tryz.sizeOf3
  v3 := Tryz.zeroValue3
  t4 := Tryz.underlying4
  a4 := Tryz.isAgg4
  z4 := Tryz.sizeOf4
  v4 := Tryz.zeroValue4
  t5 := Tryz.underlying5
  a5 := Tryz.isAgg5
  z5 := Tryz.sizeOf5
  v5 := Tryz.zeroValue5
  t9 := Tryz.underlying9
  a9 := Tryz.isAgg9
  z9 := Tryz.sizeOf9
  v9 := Tryz.zeroValue9
  t22 := Tryz.underlying37
  a22 := Tryz.isAgg37
  z22 := Tryz.sizeOf37
  v22 := Tryz.zeroValue37
  t25 := Tryz.underlying115
  a25 := Tryz.isAgg115
  z25 := Tryz.sizeOf115
  v25 := Tryz.zeroValue115
  t39 := Tryz.underlying94
  a39 := Tryz.isAgg94
  z39 := Tryz.sizeOf94
  v39 := Tryz.zeroValue94
  t45 := Tryz.underlying155
  a45 := Tryz.isAgg155
  z45 := Tryz.sizeOf155
  v45 := Tryz.zeroValue155
  t46 := Tryz.underlying156
  a46 := Tryz.isAgg156
  z46 := Tryz.sizeOf156
  v46 := Tryz.zeroValue156
  t50 := Tryz.underlying160
  a50 := Tryz.isAgg160
  z50 := Tryz.sizeOf160
  v50 := Tryz.zeroValue160
  t53 := Tryz.underlying127
  a53 := Tryz.isAgg127
  z53 := Tryz.sizeOf127
  v53 := Tryz.zeroValue127
  t55 := Tryz.underlying47
  a55 := Tryz.isAgg47
  z55 := Tryz.sizeOf47
  v55 := Tryz.zeroValue47
  t66 := Tryz.underlying193
  a66 := Tryz.isAgg193
  z66 := Tryz.sizeOf193
  v66 := Tryz.zeroValue193
  t70 := Tryz.underlying197
  a70 := Tryz.isAgg197
  z70 := Tryz.sizeOf197
  v70 := Tryz.zeroValue197
  t76 := Tryz.underlying219
  a76 := Tryz.isAgg219
  z76 := Tryz.sizeOf219
  v76 := Tryz.zeroValue219
  t77 := Tryz.underlying220
  a77 := Tryz.isAgg220
  z77 := Tryz.sizeOf220
  v77 := Tryz.zeroValue220 }
end Go.Proofs
namespace Go.Proofs.YtbanpdeganlndaaGreatDoor
open Go.RowKit Go.Shelf Go.Sort
open St (Tx As Ch)

theorem cb_lt : ∀ a b : Tx, Lib.compareBytes a b < 0 ↔ a < b
  | [], [] => by simp [Lib.compareBytes]
  | [], _ :: _ => by simp [Lib.compareBytes]
  | _ :: _, [] => by simp [Lib.compareBytes]
  | a :: l1, b :: l2 => by
    have ih := cb_lt l1 l2
    unfold Lib.compareBytes
    rw [List.cons_lt_cons_iff]
    by_cases h1 : a < b
    · simp [h1]
    · by_cases h2 : b < a
      · have h3 : a ≠ b := fun e => by subst e; exact h1 h2
        simp [h1, h2, h3]
      · have h3 : a = b := by
          rw [UInt8.lt_iff_toNat_lt] at h1 h2
          exact UInt8.toNat_inj.1 (by omega)
        simp [h1, h2, h3, ih]
def cfP (x y : Tx × Tx) : Int := Lib.compareBytes x.1 y.1
theorem ltP (x y : Tx × Tx) : ltOf cfP x y = decide (x.1 < y.1) := by
  unfold ltOf cfP
  exact decide_eq_decide.2 (cb_lt _ _)
theorem swoP : SWO (ltOf cfP) where
  irrefl := fun x => by rw [ltP]; simp
  trans := fun x y z h1 h2 => by
    rw [ltP] at *
    simp only [decide_eq_true_eq] at *
    exact List.lt_trans h1 h2
  ntrans := fun x y z h1 h2 => by
    rw [ltP] at *
    simp only [decide_eq_false_iff_not, List.not_lt] at *
    exact List.le_trans h2 h1
set_option maxHeartbeats 1000000 in
theorem clo_any (a b va vb : ByteArray) (ga gb : Bool) (w : World) :
    Calls Tryz.prog 57 #[.agg #[.string a, .string va, .bool ga], .agg #[.string b, .string vb, .bool gb]] w fun e w' => e = .returned (.int .i64 (Lib.compareBytes a.data.toList b.data.toList)) ∧ ∃ os, w' = grow w os := by
  have HC := Lib.hid (fun w' => Any.strings_Compare Tryz.strCompare a b w')
  go_enter Tryz.func57, Tryz.ntmps57
  go_wp2_with fail
  refine (HC.out _).mono ?_
  rintro e w' ⟨rfl, rfl⟩
  go_wp2_with fail
  go_ret
  refine ⟨rfl, ?_⟩
  first
    | exact ⟨#[], (grow_empty _).symm⟩
    | exact ⟨_, by rw [alloc_eq_grow]⟩
    | exact ⟨_, by rw [alloc_eq_grow, alloc_eq_grow, grow_grow]⟩
def encP (x : Tx × Tx) : List Value := [.string (strO x.1), .string (strO x.2), .bool false]
theorem cmpLays (blk off size : Nat) (w : World) : CmpLays Tryz.prog 57 #[] encP 3 cfP blk off size w := fun m os dk hs x y => by
  refine (clo_any (strO x.1) (strO y.1) (strO x.2) (strO y.2) false false _).mono ?_
  rintro e w' ⟨rfl, os', rfl⟩
  exact ⟨by rw [strO_list, strO_list]; rfl, 0, os', rfl⟩
theorem flat_enc (xs : As) : (flatK encP 3 xs.toArray).toList = pcells (St.news xs) := by
  refine List.ext_getElem? fun i => ?_
  by_cases hi : i < xs.length * 3
  · have hk : i / 3 < xs.length := by omega
    have hnk : i / 3 < (St.news xs).length := by simpa [St.news] using hk
    obtain ⟨h0, h1, h2⟩ := pcells_get (St.news xs) (i / 3) hnk
    have hg := get_flatK encP 3 xs.toArray i (by simpa using hi)
    have hsz : i < (flatK encP 3 xs.toArray).size := by simpa using hi
    rw [getElem!_pos _ i hsz] at hg
    rw [Array.getElem?_toList, Array.getElem?_eq_getElem hsz, hg]
    have hx : xs.toArray[i / 3]! = xs[i / 3] := by simp [hk]
    have he : (St.news xs)[i / 3] = ⟨(xs[i / 3]).1, (xs[i / 3]).2, false⟩ := by simp [St.news]
    rw [he] at h0 h1 h2
    rw [hx]
    have h3 : i % 3 = 0 ∨ i % 3 = 1 ∨ i % 3 = 2 := by omega
    rcases h3 with h | h | h
    · rw [h]; exact ((congrArg (fun t => (pcells (St.news xs))[t]?) (show i = i / 3 * 3 by omega)).trans h0).symm
    · rw [h]; exact ((congrArg (fun t => (pcells (St.news xs))[t]?) (show i = i / 3 * 3 + 1 by omega)).trans h1).symm
    · rw [h]; exact ((congrArg (fun t => (pcells (St.news xs))[t]?) (show i = i / 3 * 3 + 2 by omega)).trans h2).symm
  · rw [List.getElem?_eq_none (by simpa using hi), List.getElem?_eq_none (by rw [pcells_len]; simpa [St.news] using hi)]
end Go.Proofs.YtbanpdeganlndaaGreatDoor
namespace Go.Proofs.YtbanpdeganlndaaGreatDoor
open Go.RowKit Go.Shelf Go.Sort
open St (Tx As Ch)

theorem keeps_sortedK (w : World) (n blk off : Nat) (d : Array (Tx × Tx)) (os : Array Obj) : Keeps [blk] w (sortWorldK encP 3 w blk off n d os) := by
  refine ⟨rfl, rfl, rfl, by simp [sortWorldK, grow, putRowK, putRow, mapBlock], fun k hk hn => ?_⟩
  have hne : blk ≠ k := fun e => hn (by simp [e])
  simp only [sortWorldK, grow, putRowK, putRow, mapBlock]
  rw [Array.getElem?_append_left (by simpa using hk), Array.getElem?_modify, if_neg hne]; rfl
theorem isAggP (w : World) : (isAgg (Tryz.sortF_ren.t 24)).run Tryz.prog w = .ok true w := by kernel_rfl
theorem sizeOfP (w : World) : (Go.sizeOf (Tryz.sortF_ren.t 24)).run Tryz.prog w = .ok 3 w := by kernel_rfl
theorem news_len (xs : As) : (St.news xs).length = xs.length := by simp [St.news]
theorem holds_row {w : World} {g base cap : Nat} {xs : As} {cur : Array Value} (hg : w.heap[g]? = some (.cells cur 66 (0, 0))) (ht : cur.toList.take (xs.length * 3) = pcells (St.news xs)) : HoldsK encP 3 w g 0 xs.toArray := fun j hj => by
  have hj' : j < xs.length * 3 := by simpa using hj
  refine ⟨?_, row_free hg _⟩
  rw [row_cell hg]
  have h1 : (cur.toList.take (xs.length * 3))[0 + j]? = (flatK encP 3 xs.toArray).toList[0 + j]? := by rw [ht, flat_enc]
  rw [List.getElem?_take, if_pos (by omega)] at h1
  rw [← Array.getElem?_toList, h1, Nat.zero_add, Array.getElem?_toList, Array.getElem?_eq_getElem hj, getElem!_pos _ j hj]
  rfl
theorem row_pairs {w : World} {g cap : Nat} {xs : As} (h : HoldsK encP 3 w g 0 xs.toArray) : PairsIn w g (some ⟨g, 0, none⟩) (St.news xs) := by
  refine .inr ⟨0, rfl, fun k hk => ?_⟩
  have hk' : k < xs.length := by rw [news_len] at hk; exact hk
  have hx : ∀ j, j < xs.length * 3 → w.cell? ⟨g, 0 + j, none⟩ = (pcells (St.news xs))[j]? := fun j hj => by
    have hj' : j < (flatK encP 3 xs.toArray).size := by simpa using hj
    rw [(h j hj').1, ← flat_enc, Array.getElem?_toList, Array.getElem?_eq_getElem hj', getElem!_pos _ j hj']
    rfl
  obtain ⟨h0, h1, h2⟩ := pcells_get (St.news xs) k hk
  exact ⟨by rw [hx (k * 3) (by omega)]; exact h0, by rw [Nat.add_assoc, hx (k * 3 + 1) (by omega)]; exact h1, by rw [Nat.add_assoc, hx (k * 3 + 2) (by omega)]; exact h2⟩
set_option maxHeartbeats 2000000 in
theorem sortedFunc_any (g : Nat) (lb : Array Value) (eg : ∀ args w, (callFunc g args).run Tryz.prog w = .ok (.enter g args) w) (m : As) (hm : m.length ≤ 1000000) (Sp : As → Prop) (w : World) (hseq : SeqStops Fence.wide 10 Tryz.prog g lb encV (fun xs => xs.Perm m) Sp m.length w) :
    Calls Tryz.prog 55 #[.func (.func g) #[] lb, .func (.func 57) #[] #[]] w fun e w' => ∃ A c b xs, e = .returned (.slice A (St.news xs).length c) ∧ xs.Perm m ∧ PairsIn w' b A (St.news xs) ∧ (xs ≠ [] → w.heap.size ≤ b) ∧ Keeps [] w w' := by
  have HC := Lib.hid (callsIn_wide.1 (collect_in g lb eg (fun xs => xs.Perm m) Sp m.length (by omega) w hseq))
  clear hseq
  go_enter Tryz.func55, Tryz.ntmps55
  go_wp2_with fail
  refine HC.out.mono ?_
  rintro e w1 ⟨v, xs, rfl, hS, hrow, hb⟩
  have HK1 := Lib.hid (Keeps.of_below hb [])
  have HS := Lib.hid hS
  have hlen : xs.length ≤ 1000000 := by rw [hS.length_eq]; exact hm
  clear hb hS
  rcases hrow.2 with ⟨rfl, h0⟩ | ⟨b, c, cur, rfl, hbase, hgb, hn, hmx, hcs, htk⟩
  · have hxe : xs = [] := List.eq_nil_of_length_eq_zero h0
    have HN := Lib.hid (AnyF.slices_SortFunc_none Tryz.sortF none 0 (.func (.func 57) #[] #[]) w1)
    clear hrow
    go_wp2_with fail
    refine HN.out.mono ?_
    rintro e w2 ⟨rfl, rfl⟩
    go_wp2_with fail
    go_ret
    subst hxe
    exact ⟨none, 0, 0, [], rfl, HS.out, .inl rfl, fun h => absurd rfl h, HK1.out⟩
  · have HF := Lib.hid (AnyQ.slices_SortFunc Tryz.sortF 3 isAggP sizeOfP encP (fun _ => rfl) (fun x v hv => by simp [encP] at hv; rcases hv with rfl | rfl | rfl <;> rfl) cfP swoP 57 #[] b 0 c xs.toArray w1 (enters_of Tryz.func57 (by kernel_rfl) rfl) (cmpLays _ _ _ _) (holds_row (base := 0) (cap := 0) hgb htk) (block_lt hgb) (by simp; omega))
    have HH := Lib.hid (holds_row (base := 0) (cap := 0) hgb htk)
    have HBL := Lib.hid (block_lt hgb)
    have HBS := Lib.hid hbase
    clear hrow hgb hcs htk hbase
    go_wp2_with fail
    refine HF.out.mono ?_
    rintro e w2 ⟨rfl, d', n, os, hp, _, rfl⟩
    obtain ⟨hp1, _, hp3⟩ := hp
    have hpm : d'.toList.Perm xs := by
      have e1 : d'.extract 0 xs.toArray.size = d' := by rw [← hp1]; simp
      rw [e1] at hp3
      simpa using hp3
    have HPM := Lib.hid hpm
    have HR := Lib.hid (holdsK_sortWorldK_c (enc := encP) (k := 3) (w := w1) (blk := b) (off := 0) (d := xs.toArray) (dk := d') (m := n) (os := os) HH.out HBL.out hp1)
    have HK2 := Lib.hid (HK1.out.fresh (keeps_sortedK w1 n b 0 d' os) (by simpa using HBS.out))
    have hl2 : xs.length = (St.news d'.toList).length := by rw [news_len, hpm.length_eq]
    clear hp1 hp3 hpm
    go_wp2_with fail
    go_ret
    exact ⟨some ⟨b, 0, none⟩, c, b, d'.toList, by rw [← hl2]; rfl, HPM.out.trans HS.out, row_pairs (cap := 0) (by simpa using HR.out), fun _ => HBS.out, HK2.out⟩
/-- What pairs gives. -/
def PrsP (w : World) (l : As) (e : Ending) (w' : World) : Prop :=
  ∃ A c b xs, e = .returned (.slice A (St.news xs).length c) ∧ List.Perm xs l ∧ PairsIn w' b A (St.news xs) ∧ (xs ≠ [] → w.heap.size ≤ b) ∧ Keeps [] w w'
set_option maxHeartbeats 2000000 in
theorem sprs_any (w : World) (mb : Nat) (l : As) (h : MapAt w mb EP l) (hl : l.length ≤ 1000000) : Calls Tryz.prog 32 #[.map (some mb)] w (PrsP w l) := by
  have HV := Lib.hid (callsIn_wide.1 (values_call mb w))
  have hka : Keeps [] w (w.alloc (.cells #[.map (some mb)] 41)) := (Keeps.refl _ _).alloc _
  have HKA := Lib.hid hka
  have HSZ := Lib.hid hka.size
  have hv := vals_stops w.heap.size mb l (w.alloc (.cells #[.map (some mb)] 41)) (by simp) (by rw [row_cell (heap_alloc_new w _)]; rfl) (h.keep hka (by simp))
  have HF := Lib.hid (sortedFunc_any 90 #[.pointer (some ⟨w.heap.size, 0, none⟩)] (enters_of Tryz.func90 (by kernel_rfl) rfl) l hl (fun _ => True) _ hv)
  clear h hka hv
  go_enter Tryz.func32, Tryz.ntmps32
  go_wp2_with fail
  refine HV.out.mono ?_
  rintro e w1 ⟨rfl, rfl⟩
  go_wp2_with fail
  refine HF.out.mono ?_
  rintro e w2 ⟨A, c, b, xs, rfl, hp, hpi, hb, hk⟩
  have HP := Lib.hid hp
  have HPI := Lib.hid hpi
  have HB := Lib.hid hb
  have HK := Lib.hid (HKA.out.trans hk (by simp))
  clear hp hpi hb hk
  go_wp2_with fail
  go_ret
  exact ⟨A, c, b, xs, rfl, HP.out, HPI.out, fun hne => Nat.le_trans HSZ.out (HB.out hne), HK.out⟩
end Go.Proofs.YtbanpdeganlndaaGreatDoor
