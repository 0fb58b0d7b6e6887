/- LexBlanks: what lies between tokens says nothing. -/
import Derived.Test.YtieghhhiclpeiaaDoorLReads
import Derived.Test.YtieghhhiclpeiaaDoorLMath5
import Derived.Test.YtieghhhiclpeiaaDoorLBytes
import Derived.Test.YtieghhhiclpeiaaDoorRegion
import Derived.IntWalk
namespace Go.Proofs.YtieghhhiclpeiaaDoor
open Go.RowKit Go.Shelf
open Reg (Is Fact)

def itsOf (l m : List UInt8) : List (Nat × Nat) := List.zipWith (fun a b => (a.toNat % 21, b.toNat % 5)) l m
theorem itsOf_len {l m : List UInt8} (h : l.length ≤ m.length) : (itsOf l m).length = l.length := by simp [itsOf]; omega
theorem itsOf_ok {l m : List UInt8} : ∀ i ∈ itsOf l m, i.1 < 21 ∧ i.2 < 5 := by
  intro i hi
  unfold itsOf at hi
  obtain ⟨j, hj, rfl⟩ := List.getElem_of_mem hi
  rw [List.getElem_zipWith]
  exact ⟨by show _ % 21 < 21; omega, by show _ % 5 < 5; omega⟩
theorem itsOf_get {l m : List UInt8} {k : Nat} (h : k < l.length) (h' : l.length ≤ m.length) : (itsOf l m)[k]'(by rw [itsOf_len h']; exact h) = (l[k].toNat % 21, (m[k]'(by omega)).toNat % 5) := by
  unfold itsOf
  rw [List.getElem_zipWith]
theorem itsOf_snoc {l m : List UInt8} {k : Nat} (h : k < l.length) (h' : l.length ≤ m.length) : (itsOf l m).take (k + 1) = (itsOf l m).take k ++ [(l[k].toNat % 21, (m[k]'(by omega)).toNat % 5)] := by
  rw [List.take_succ_eq_append_getElem (by rw [itsOf_len h']; exact h), itsOf_get h h']
def wcells : List Value := Lx.wordsL.map fun t => .string (strO t)
def bcells : List Value := Lx.blanksL.map fun t => .string (strO t)
theorem wcells_get {a : Nat} (ha : a < 21) : wcells[a]? = some (.string (strO (Lx.wd a))) := by
  have h : a < Lx.wordsL.length := ha
  unfold wcells Lx.wd
  rw [List.getElem?_map, List.getElem?_eq_getElem h, List.getD_eq_getElem?_getD, List.getElem?_eq_getElem h]
  rfl
theorem bcells_get {a : Nat} (ha : a < 5) : bcells[a]? = some (.string (strO (Lx.bl a))) := by
  have h : a < Lx.blanksL.length := ha
  unfold bcells Lx.bl
  rw [List.getElem?_map, List.getElem?_eq_getElem h, List.getD_eq_getElem?_getD, List.getElem?_eq_getElem h]
  rfl
theorem Is.lastK {u : Value} : ∀ v w w', Is u v w → Keeps [] w w' → Is u v w' := fun _ _ _ h _ => h
/-- A new row that holds the cells cs. -/
def RowF (n : Nat) (cs : List Value) : Fact := fun v w => ∃ x, v = .slice (some ⟨x, 0, none⟩) n n ∧ ∀ (j : Nat) u, cs[j]? = some u → w.cell? ⟨x, j, none⟩ = some u
theorem RowF.last {n : Nat} {cs : List Value} : ∀ v w w', RowF n cs v w → Keeps [] w w' → RowF n cs v w' :=
  fun _ _ _ ⟨x, h1, h2⟩ hk => ⟨x, h1, fun j u hu => hk.cell_some (h2 j u hu) (by simp)⟩
/-- A pointer to a cell that holds u. -/
def PtrF (u : Value) : Fact := fun v w => ∃ a, v = .pointer (some a) ∧ w.cell? a = some u
theorem PtrF.last {u : Value} : ∀ v w w', PtrF u v w → Keeps [] w w' → PtrF u v w' :=
  fun _ _ _ ⟨a, h1, h2⟩ hk => ⟨a, h1, hk.cell_some h2 (by simp)⟩

attribute [local go_sem] Reg.lateFr Reg.wantedV Reg.gives_value Reg.gives_skip Reg.gives_enter
set_option maxHeartbeats 8000000 in
set_option maxRecDepth 100000 in
theorem lblanks_any (w : World) (he : ErrAt w) (A0 : Option Addr) (l0 : List UInt8) (cap0 : Nat) (hr0 : ∃ g, BytesIn w g A0 l0) (hl0 : l0.length ≤ maxLen) (_hc0 : l0.length ≤ cap0) (_hm0 : cap0 ≤ maxLen)
    (A1 : Option Addr) (l1 : List UInt8) (cap1 : Nat) (hr1 : ∃ g, BytesIn w g A1 l1) (hl1 : l1.length ≤ maxLen) (_hc1 : l1.length ≤ cap1) (_hm1 : cap1 ≤ maxLen) :
    Calls Tryd.prog 4 #[.slice A0 l0.length cap0, .slice A1 l1.length cap1] w (Yes w) := by
  unfold maxLen at hl0 hl1
  obtain ⟨g0, hr0⟩ := hr0
  obtain ⟨g1, hr1⟩ := hr1
  have HK0 := Lib.hid (known_any w he)
  have HE := Lib.hid he
  have HB0 := Lib.hid hr0
  have HB1 := Lib.hid hr1
  clear he hr0 hr1
  by_cases h60 : l0.length ≤ 60
  · by_cases hle : l0.length ≤ l1.length
    · go_enter Tryd.func4, Tryd.ntmps4
      go_wp2_with fail
      refine (HK0.out).mono ?_
      rintro e w1 ⟨rfl, hk1⟩
      have HK1 := Lib.hid hk1
      clear hk1
      obtain ⟨cs, hcs⟩ : ∃ x : Array Value, x = wcells.toArray := ⟨_, rfl⟩
      have hcs2 : cs = #[.string ⟨#[97]⟩, .string ⟨#[98, 49]⟩, .string ⟨#[95]⟩, .string ⟨#[48]⟩, .string ⟨#[49, 55]⟩, .string ⟨#[61]⟩, .string ⟨#[61, 61]⟩, .string ⟨#[33, 61]⟩, .string ⟨#[33]⟩, .string ⟨#[60]⟩, .string ⟨#[60, 61]⟩, .string ⟨#[38]⟩, .string ⟨#[38, 38]⟩, .string ⟨#[124, 124]⟩, .string ⟨#[40]⟩, .string ⟨#[93]⟩, .string ⟨#[44]⟩, .string ⟨#[59]⟩, .string ⟨#[102, 110]⟩, .string ⟨#[42]⟩, .string ⟨#[37]⟩] := by rw [hcs]; rfl
      have HCS := Lib.hid hcs
      have HCS2 := Lib.hid hcs2
      clear hcs hcs2
      go_wp2_with fail
      rw [← HCS2.out]
      obtain ⟨W, hW⟩ : ∃ W, W = w1.heap.size := ⟨_, rfl⟩
      rw [← hW]
      obtain ⟨wA, hwA⟩ : ∃ x, x = w1.alloc (.cells cs 9) := ⟨_, rfl⟩
      rw [← hwA]
      have HWA := Lib.hid (show wA.heap[W]? = some (.cells cs 9 (0, 0)) by rw [hwA, hW]; exact heap_alloc_new w1 _)
      have HKA := Lib.hid (show Keeps [] w wA by rw [hwA]; exact HK1.out.alloc _)
      have HW := Lib.hid (show ∀ wx, Keeps [] wA wx → ∀ m, m < 21 → wx.cell? ⟨W, m, none⟩ = some (.string (strO (Lx.wd m))) from fun wx hk m hm => by
        have h := block_keep HWA.out hk (by simp)
        rw [row_cell h, HCS.out]
        have := wcells_get hm
        simpa using this)
      have HBA0 := Lib.hid (HB0.out.keep HKA.out (by simp))
      have HBA1 := Lib.hid (HB1.out.keep HKA.out (by simp))
      obtain ⟨its, hits⟩ : ∃ x, x = itsOf l0 l1 := ⟨_, rfl⟩
      have HIT := Lib.hid hits
      have hil : its.length = l0.length := by rw [hits, itsOf_len hle]
      have HOK := Lib.hid (show ∀ i ∈ its, i.1 < 21 ∧ i.2 < 5 by rw [hits]; exact itsOf_ok)
      have HIL := Lib.hid hil
      clear hW hwA hits hil
      go_loopw [6, 7] (fun sv iv wr => ∃ k : Nat, k ≤ l0.length ∧ iv = .int .i64 (k : Int) ∧ sv = .string (strO (Lx.txt (its.take k))) ∧ Keeps [] wA wr) (fun _ iv _ => l0.length - (intOf iv).toNat)
      case atStart => exact ⟨0, Nat.zero_le _, rfl, rfl, Keeps.refl _ _⟩
      case round =>
        obtain ⟨k, hk, rfl, rfl, hkp⟩ := hrel
        have HK := Lib.hid hkp
        clear hkp
        by_cases hlt : k < l0.length
        · have hlt1 : k < l1.length := by omega
          rcases HBA0.out with h0 | ⟨off0, rfl, hcell0⟩
          · rw [h0] at hlt; simp at hlt
          rcases HBA1.out with h0 | ⟨off1, rfl, hcell1⟩
          · rw [h0] at hlt1; simp at hlt1
          have d0 := HK.out.cell_some (hcell0 k hlt) (by simp)
          have d1 := HK.out.cell_some (hcell1 k hlt1) (by simp)
          have HSN := Lib.hid (itsOf_snoc hlt hle)
          have x0 := l0[k].toNat_lt
          have x1 := (l1[k]'hlt1).toNat_lt
          obtain ⟨cn, hcn⟩ : ∃ x, x = l0[k].toNat := ⟨_, rfl⟩
          obtain ⟨dn, hdn⟩ : ∃ x, x = (l1[k]'hlt1).toNat := ⟨_, rfl⟩
          rw [← hcn] at d0 x0 HSN
          rw [← hdn] at d1 x1 HSN
          obtain ⟨m1, hm1⟩ : ∃ m, m = cn % 21 := ⟨_, rfl⟩
          obtain ⟨m2, hm2⟩ : ∃ m, m = dn % 5 := ⟨_, rfl⟩
          rw [← hm1, ← hm2] at HSN
          have hm1' : m1 < 21 := by omega
          have hm2' : m2 < 5 := by omega
          have e0 : IntKind.i64.wrap ((cn : Nat) : Int) = (cn : Int) := IntWalk.i64_in _ ⟨by omega, by omega⟩
          have r1 : ((cn : Nat) : Int).tmod 21 = (m1 : Int) := by rw [Int.tmod_eq_emod_of_nonneg (by omega)]; omega
          have r2 : ((dn : Nat) : Int).tmod 5 = (m2 : Int) := by rw [Int.tmod_eq_emod_of_nonneg (by omega)]; omega
          have e1 : IntKind.i64.wrap (m1 : Int) = (m1 : Int) := IntWalk.i64_in _ ⟨by omega, by omega⟩
          have e2 : IntKind.u8.wrap (m2 : Int) = (m2 : Int) := IntWalk.u8_in _ ⟨by omega, by omega⟩
          obtain ⟨st, hst⟩ : ∃ x, x = strO (Lx.txt (its.take k)) := ⟨_, rfl⟩
          obtain ⟨ws, hws⟩ : ∃ x, x = strO (Lx.wd m1) := ⟨_, rfl⟩
          obtain ⟨bs, hbs⟩ : ∃ x, x = strO (Lx.bl m2) := ⟨_, rfl⟩
          have hsts : st.size ≤ 660 := by
            rw [hst, strO_len]
            have := Lx.txt_len (its.take k) (fun i hi => HOK.out i (List.mem_of_mem_take hi))
            rw [List.length_take] at this
            have := HIL.out
            omega
          have hwss : ws.size ≤ 2 := by rw [hws, strO_len]; exact (Lx.wd_judge m1 hm1').2.2
          have hbss : bs.size ≤ 9 := by rw [hbs, strO_len]; exact (Lx.bl_len m2 hm2').1
          have c1 : ∀ w, (Op.stringOp .add st ws).run Tryd.prog w = .ok (.string (st ++ ws)) w := fun w => run_string_add_sum w st ws (by omega)
          have c2 : ∀ w, (Op.stringOp .add (st ++ ws) bs).run Tryd.prog w = .ok (.string (st ++ ws ++ bs)) w := fun w => run_string_add_sum w (st ++ ws) bs (by rw [ByteArray.size_append]; omega)
          have HTX := Lib.hid (show st ++ ws ++ bs = strO (Lx.txt (its.take (k + 1))) by
            rw [hst, hws, hbs, strO_add, strO_add, HIT.out, HSN.out, ← HIT.out, Lx.txt_snoc])
          have HWK := Lib.hid (fun wx hx => HW.out wx hx m1 hm1')
          rw [← hws] at HWK
          have HBC := Lib.hid (bcells_get hm2')
          rw [← hbs] at HBC
          have HHW := Lib.hid (show W < wr.heap.size from Nat.lt_of_lt_of_le (block_lt HWA.out) HK.out.size)
          rw [← hst]
          have HD0 := Lib.hid d0
          have HD1 := Lib.hid d1
          clear hcell0 hcell1 hcn hdn hm1 hm2 hst hws hbs d0 d1
          go_wp2_with fail
          refine Reg.wp_region_late (A := ?A) (B := ?B) [0] [22] (fun _ _ w' => Keeps [] wr w') (Keeps [])
            (Is (.string st) :: Is (.slice (some ⟨W, 0, none⟩) 21 21) :: Is (.slice (some ⟨g0, off0, none⟩) l0.length cap0) :: Is (.int .i64 (k : Int)) :: Is (.pointer (some ⟨g0, off0 + k, none⟩)) :: Is (.int .u8 (cn : Int)) :: Is (.int .i64 (cn : Int)) :: Is (.slice (some ⟨W, 0, none⟩) 21 21) :: Is (.int .i64 21) :: Is (.int .i64 (m1 : Int)) :: Is (.pointer (some ⟨W, m1, none⟩)) :: Is (.string ws) :: Is (.string (st ++ ws))
              :: RowF 5 bcells :: Is (.slice (some ⟨g1, off1, none⟩) l1.length cap1) :: Is (.int .i64 (k : Int)) :: Is (.pointer (some ⟨g1, off1 + k, none⟩)) :: Is (.int .u8 (dn : Int)) :: Is (.int .u8 (m2 : Int)) :: PtrF (.string bs) :: Is (.string bs) :: Is (.string (st ++ ws ++ bs)) :: Is (.string (st ++ ws ++ bs)) :: [])
            (by kernel_rfl) (by kernel_rfl) rfl ?hA ?hB ?hC ?ho ?hlast ?hend
          case hA => intro vs; simp only [Reg.fill, if_true, Nat.zero_add, Nat.reduceAdd, Act.put, List.setIfInBounds_toArray, List.set_cons_succ, List.set_cons_zero]; exact rfl
          case hB => intro vs; simp only [Reg.fill, List.contains_cons, List.contains_nil, Nat.zero_add, Nat.reduceAdd, Nat.reduceBEq, Bool.or_false, Bool.not_true, Bool.not_false, if_true, if_false, Bool.false_eq_true, Act.put, List.setIfInBounds_toArray, List.set_cons_succ, List.set_cons_zero]; exact rfl
          case hC => exact fun vs => (Keeps.refl _ _).drew
          case hlast => repeat (first | exact trivial | refine ⟨Is.lastK, ?_⟩ | refine ⟨RowF.last, ?_⟩ | refine ⟨PtrF.last, ?_⟩)
          case ho =>
            repeat' apply And.intro
            all_goals
              first
                | exact trivial
                | (intro Ls vs w' hC hL hd ha K hK
                   try simp only [Reg.Deps, Reg.at_, List.getD_cons_zero, List.getD_cons_succ, Region.binds, true_implies, Is, and_true] at hd
                   have k0 := hC.cell_some HD0.out (by simp)
                   have k1 := hC.cell_some HD1.out (by simp)
                   have k2 := HWK.out w' (HK.out.trans hC (by simp))
                   go_simp
                   first
                     | exact hK _ _ hC (Keeps.refl _ _) rfl
                     | exact hK _ _ hC (Keeps.refl _ _) hd.1
                     | skip)
            · rw [if_pos (by omega)]
              exact hK _ _ hC (Keeps.refl _ _) rfl
            · refine hK _ _ (hC.alloc _) ((Keeps.refl _ _).alloc _) ⟨w'.heap.size, rfl, fun j u hu => ?_⟩
              rw [cell_new]
              show (bcells.toArray)[j]? = some u
              simpa using hu
            · obtain ⟨⟨x, hx, hcl⟩, -⟩ := hd
              rw [hx]
              go_simp
              rw [if_pos (by omega)]
              exact hK _ _ hC (Keeps.refl _ _) ⟨_, rfl, hcl m2 _ HBC.out⟩
            · obtain ⟨a, hxa, hcl⟩ := hd
              rw [hxa]
              simp only [Sem.run_pure, Result.andThen_ok, hcl]
              exact hK _ _ hC (Keeps.refl _ _) rfl
          case hend =>
            intro vs w4 hC hall
            simp only [Reg.All, Is, and_true, Nat.zero_add, Nat.reduceAdd] at hall
            obtain ⟨-, -, -, -, -, -, -, -, -, -, -, -, -, -, -, -, -, -, -, -, -, -, hv⟩ := hall
            rw [hv]
            have HK4 := Lib.hid (HK.out.trans hC (by simp))
            clear hC hv
            go_wp2_with fail
            go_roundw
            case rel => exact ⟨k + 1, by omega, by go_num, by rw [HTX.out], HK4.out⟩
            case measure => simp [intOf]; omega
        · have hkl : k = l0.length := by omega
          subst hkl
          have htk : its.take l0.length = its := by rw [← HIL.out, List.take_length]
          rw [htk]
          have hlen := Lx.txt_len its HOK.out
          rw [HIL.out] at hlen
          have HT := Lib.hid (fun w' (h : ErrAt w') => tokens_any w' (Lx.txt its) (by omega) h)
          have HO := Lx.toks_txt HOK.out (by omega)
          rw [HO] at HT
          obtain ⟨s, hs⟩ : ∃ x, x = strO (Lx.txt its) := ⟨_, rfl⟩
          have hss : s.size = (Lx.txt its).length := by rw [hs, strO_len]
          have HS := Lib.hid hs
          have HSS := Lib.hid hss
          rw [← hs] at HT ⊢
          obtain ⟨ts, hts⟩ : ∃ x, x = Lx.tks 0 its := ⟨_, rfl⟩
          rw [← hts] at HT
          have HTS := Lib.hid hts
          have hln : ts.length = l0.length := by rw [hts, Lx.tks_len]; exact HIL.out
          have HLN := Lib.hid hln
          have hs660 : s.size ≤ 660 := by rw [hss]; omega
          clear htk HO hs hss hts hln
          go_wp2_with fail
          refine (HT.out wr (HE.out.keep (HKA.out.trans HK.out (by simp)))).mono ?_
          rintro e w2 ⟨A, c, g, rfl, hti, _, hk2⟩
          simp only
          rw [HLN.out]
          have HTI := Lib.hid hti
          simp only at HTI
          have HK2 := Lib.hid (HK.out.trans hk2 (by simp))
          clear hti hk2
          go_wp2_with fail
          go_loopw [11] (fun jv wq => ∃ j : Nat, j ≤ l0.length ∧ jv = .int .i64 (j : Int) ∧ Keeps [] w2 wq) (fun jv _ => l0.length - (intOf jv).toNat)
          case atStart => exact ⟨0, Nat.zero_le _, rfl, Keeps.refl _ _⟩
          case round =>
            obtain ⟨j, hj, rfl, hkq⟩ := hrel
            have HKQ := Lib.hid hkq
            clear hkq
            by_cases hlt : j < l0.length
            · rcases HBA0.out with h0 | ⟨off0, rfl, hcell0⟩
              · rw [h0] at hlt; simp at hlt
              rcases HTI.out with h0 | ⟨off, rfl, hcell⟩
              · rw [← HLN.out, h0] at hlt; simp at hlt
              have hjt : j < ts.length := by rw [HLN.out]; exact hlt
              have hji : j < its.length := by rw [HIL.out]; exact hlt
              have d0 := (HK2.out.trans HKQ.out (by simp)).cell_some (hcell0 j hlt) (by simp)
              have htj : ts[j] = ⟨Lx.wk its[j].1, Lx.wd its[j].1, 0 + (Lx.txt (its.take j)).length⟩ := by
                have := Lx.tks_get its 0 j hji
                simp only [HTS.out]
                exact this
              have hitj : its[j] = (l0[j].toNat % 21, (l1[j]'(by omega)).toNat % 5) := by
                have := itsOf_get hlt hle
                simp only [HIT.out]
                exact this
              obtain ⟨q1, q2, q3⟩ := hcell j hjt
              rw [htj] at q1 q2 q3
              have hpp := Lx.txt_part its j hji
              obtain ⟨a, ha⟩ : ∃ x, x = (its[j]).1 := ⟨_, rfl⟩
              have ha21 : a < 21 := by rw [ha]; exact (HOK.out _ (List.getElem_mem hji)).1
              have hac : a = l0[j].toNat % 21 := by rw [ha, hitj]
              simp only [← ha] at q1 q2 q3 hpp
              obtain ⟨pa, hpa⟩ : ∃ x, x = (Lx.txt (its.take j)).length := ⟨_, rfl⟩
              rw [Nat.zero_add, ← hpa] at q3
              rw [← hpa] at hpp
              obtain ⟨wn, hwn⟩ : ∃ x, x = (Lx.wd a).length := ⟨_, rfl⟩
              have hpl := congrArg List.length hpp
              rw [List.length_drop, List.length_append, ← hwn, ← HSS.out] at hpl
              have hw0 : 1 ≤ wn := by rw [hwn]; exact List.length_pos_iff.2 (Lx.wd_judge a ha21).2.1
              have hbd : pa + wn ≤ s.size := by omega
              obtain ⟨ws, hws⟩ : ∃ x, x = strO (Lx.wd a) := ⟨_, rfl⟩
              have hwz : ws.size = wn := by rw [hws, strO_len, hwn]
              have hsl : ∀ w, (Instr.slice 9 (.string s) (some (.int .i64 (pa : Int))) (some (.int .i64 ((pa : Int) + (wn : Int)))) none).run Tryd.prog w = .ok (.string ws) w := fun w => by
                rw [run_slice_string w 9 _ .i64 .i64 _ _ Tryd.underlying9 (by omega) (by omega) (by omega), show ((pa : Int) + (wn : Int)).toNat = pa + wn by omega, Int.toNat_natCast, HS.out, strO_extract, hpp, show pa + wn - pa = wn by omega, hwn, List.take_left, hws]
              have e1 : IntKind.i64.wrap ((pa : Int) + (wn : Int)) = (pa : Int) + (wn : Int) := IntWalk.i64_in _ ⟨by omega, by omega⟩
              have e2 : IntKind.i64.wrap ((wn : Nat) : Int) = (wn : Int) := IntWalk.i64_in _ ⟨by omega, by omega⟩
              have x0 := l0[j].toNat_lt
              obtain ⟨cn, hcn⟩ : ∃ x, x = l0[j].toNat := ⟨_, rfl⟩
              rw [← hcn] at d0 x0 hac
              have e0 : IntKind.i64.wrap ((cn : Nat) : Int) = (cn : Int) := IntWalk.i64_in _ ⟨by omega, by omega⟩
              have r1 : ((cn : Nat) : Int).tmod 21 = (a : Int) := by rw [Int.tmod_eq_emod_of_nonneg (by omega)]; omega
              have r2 : ((cn : Nat) : Int) % 21 = (a : Int) := by omega
              have e3 : IntKind.i64.wrap (a : Int) = (a : Int) := IntWalk.i64_in _ ⟨by omega, by omega⟩
              have w1 := HW.out wr (HK2.out.trans HKQ.out (by simp)) a ha21
              obtain ⟨c0, hc0, hcl⟩ := Lx.wd_class a ha21
              have iw := idx0 hws hc0
              obtain ⟨fc, hfc⟩ : ∃ x, x = c0.toNat := ⟨_, rfl⟩
              rw [← hfc] at iw hcl
              have HCL := Lib.hid hcl
              obtain ⟨ka, hka⟩ : ∃ x : Int, x = ((Lx.wk a : Nat) : Int) := ⟨_, rfl⟩
              have HKA2 := Lib.hid hka
              rw [← hws] at q2 w1
              rw [← hka] at q1
              have k1 := HKQ.out.cell_some q1 (by simp)
              have k2 := HKQ.out.cell_some q2 (by simp)
              have k3 := HKQ.out.cell_some q3 (by simp)
              have hbd2 : decide ((s.size : Int) < (pa : Int) + (wn : Int)) = false := by simp; omega
              have hne : (ws.toList == ws.toList) = true := by simp
              by_cases hj0 : j = 0
              · have dj : decide ((0 : Int) < (j : Int)) = false := by simp; omega
                have dz : ¬ 0 < j := by omega
                clear hcell0 hcell htj hitj hpp ha hac hpa hwn hpl hw0 hws hcn x0 hc0 hcl hfc hka q1 q2 q3 hji hjt hj0
                go_wp2_with fail
                go_quiet (fail)
                rcases HCL.out with ⟨h1, h2, h3⟩ | ⟨h1, h2, h3⟩ | ⟨h1, h3⟩ | ⟨h1, h3⟩ | ⟨h1, h2, h3⟩ | ⟨h1, h3⟩
                · have hkd : ka = 1 := by rw [HKA2.out, h3]; rfl
                  subst hkd
                  have d48 : decide ((48 : Int) ≤ (fc : Int)) = true := by simp; omega
                  have d57 : decide ((fc : Int) ≤ 57) = true := by simp; omega
                  clear h3
                  go_wp2_with fail
                  go_roundw
                  case rel => exact ⟨j + 1, by omega, by go_num, HKQ.out.drewN nq⟩
                  case measure => simp [intOf]; omega
                · have hkd : ka = 0 := by rw [HKA2.out, h3]; rfl
                  subst hkd
                  have d48 : decide ((48 : Int) ≤ (fc : Int)) = true := by simp; omega
                  have d57 : decide ((fc : Int) ≤ 57) = false := by simp; omega
                  have d97 : decide ((97 : Int) ≤ (fc : Int)) = true := by simp; omega
                  have d122 : decide ((fc : Int) ≤ 122) = true := by simp; omega
                  clear h3
                  go_wp2_with fail
                  go_roundw
                  case rel => exact ⟨j + 1, by omega, by go_num, HKQ.out.drewN nq⟩
                  case measure => simp [intOf]; omega
                · have hkd : ka = 0 := by rw [HKA2.out, h3]; rfl
                  subst hkd
                  have d48 : decide ((48 : Int) ≤ (fc : Int)) = true := by simp; omega
                  have d57 : decide ((fc : Int) ≤ 57) = false := by simp; omega
                  have d97 : decide ((97 : Int) ≤ (fc : Int)) = false := by simp; omega
                  have e95 : ((fc : Int) == 95) = true := by rw [h1]; rfl
                  clear h3
                  go_wp2_with fail
                  go_roundw
                  case rel => exact ⟨j + 1, by omega, by go_num, HKQ.out.drewN nq⟩
                  case measure => simp [intOf]; omega
                · have hkd : ka = 2 := by rw [HKA2.out, h3]; rfl
                  subst hkd
                  have d48 : decide ((48 : Int) ≤ (fc : Int)) = false := by simp; omega
                  have d97 : decide ((97 : Int) ≤ (fc : Int)) = false := by simp; omega
                  have e95 : ((fc : Int) == 95) = false := by rw [Bool.eq_false_iff]; intro h; have := beq_iff_eq.1 h; omega
                  clear h3
                  go_wp2_with fail
                  go_roundw
                  case rel => exact ⟨j + 1, by omega, by go_num, HKQ.out.drewN nq⟩
                  case measure => simp [intOf]; omega
                · have hkd : ka = 2 := by rw [HKA2.out, h3]; rfl
                  subst hkd
                  have d48 : decide ((48 : Int) ≤ (fc : Int)) = true := by simp; omega
                  have d57 : decide ((fc : Int) ≤ 57) = false := by simp; omega
                  have d97 : decide ((97 : Int) ≤ (fc : Int)) = false := by simp; omega
                  have e95 : ((fc : Int) == 95) = false := by rw [Bool.eq_false_iff]; intro h; have := beq_iff_eq.1 h; omega
                  clear h3
                  go_wp2_with fail
                  go_roundw
                  case rel => exact ⟨j + 1, by omega, by go_num, HKQ.out.drewN nq⟩
                  case measure => simp [intOf]; omega
                · have hkd : ka = 2 := by rw [HKA2.out, h3]; rfl
                  subst hkd
                  have d48 : decide ((48 : Int) ≤ (fc : Int)) = true := by simp; omega
                  have d57 : decide ((fc : Int) ≤ 57) = false := by simp; omega
                  have d97 : decide ((97 : Int) ≤ (fc : Int)) = true := by simp; omega
                  have d122 : decide ((fc : Int) ≤ 122) = false := by simp; omega
                  have e95 : ((fc : Int) == 95) = false := by rw [Bool.eq_false_iff]; intro h; have := beq_iff_eq.1 h; omega
                  clear h3
                  go_wp2_with fail
                  go_roundw
                  case rel => exact ⟨j + 1, by omega, by go_num, HKQ.out.drewN nq⟩
                  case measure => simp [intOf]; omega
              · obtain ⟨jp, hjp⟩ : ∃ x, x = j - 1 := ⟨_, rfl⟩
                have hjj : j = jp + 1 := by omega
                have hjpt : jp < ts.length := by omega
                have hjpi : jp < its.length := by omega
                have htp : ts[jp] = ⟨Lx.wk its[jp].1, Lx.wd its[jp].1, 0 + (Lx.txt (its.take jp)).length⟩ := by
                  have := Lx.tks_get its 0 jp hjpi
                  simp only [HTS.out]
                  exact this
                have q4 := (hcell jp hjpt).2.2
                rw [htp] at q4
                have hnx := Lx.txt_next its jp hjpi
                rw [← hjj, ← hpa] at hnx
                have hnp := List.length_pos_iff.2 (Lx.wd_judge its[jp].1 (HOK.out _ (List.getElem_mem hjpi)).1).2.1
                obtain ⟨pb, hpb⟩ : ∃ x, x = (Lx.txt (its.take jp)).length := ⟨_, rfl⟩
                simp only [Nat.zero_add, ← hpb] at q4
                rw [← hpb] at hnx
                have hlp : decide ((pa : Int) ≤ (pb : Int)) = false := by simp; omega
                have hln : decide (pa ≤ pb) = false := by simp; omega
                have hlm : ¬ pa ≤ pb := by omega
                have k4 := HKQ.out.cell_some q4 (by simp)
                have dj : decide ((0 : Int) < (j : Int)) = true := by simp; omega
                have dz : 0 < j := by omega
                have ej : IntKind.i64.wrap ((j : Int) - 1) = (jp : Int) := by rw [IntWalk.i64_in _ ⟨by omega, by omega⟩]; omega
                have hjl : jp < l0.length := by omega
                clear hcell0 hcell htj hitj hpp ha hac hpa hwn hpl hw0 hws hcn x0 hc0 hcl hfc hka q1 q2 q3 hji hjt hj0 hjp hjj hjpt hjpi htp q4 hnx hnp hpb
                go_wp2_with fail
                go_quiet (fail)
                rcases HCL.out with ⟨h1, h2, h3⟩ | ⟨h1, h2, h3⟩ | ⟨h1, h3⟩ | ⟨h1, h3⟩ | ⟨h1, h2, h3⟩ | ⟨h1, h3⟩
                · have hkd : ka = 1 := by rw [HKA2.out, h3]; rfl
                  subst hkd
                  have d48 : decide ((48 : Int) ≤ (fc : Int)) = true := by simp; omega
                  have d57 : decide ((fc : Int) ≤ 57) = true := by simp; omega
                  clear h3
                  go_wp2_with fail
                  go_roundw
                  case rel => exact ⟨j + 1, by omega, by go_num, HKQ.out.drewN nq⟩
                  case measure => simp [intOf]; omega
                · have hkd : ka = 0 := by rw [HKA2.out, h3]; rfl
                  subst hkd
                  have d48 : decide ((48 : Int) ≤ (fc : Int)) = true := by simp; omega
                  have d57 : decide ((fc : Int) ≤ 57) = false := by simp; omega
                  have d97 : decide ((97 : Int) ≤ (fc : Int)) = true := by simp; omega
                  have d122 : decide ((fc : Int) ≤ 122) = true := by simp; omega
                  clear h3
                  go_wp2_with fail
                  go_roundw
                  case rel => exact ⟨j + 1, by omega, by go_num, HKQ.out.drewN nq⟩
                  case measure => simp [intOf]; omega
                · have hkd : ka = 0 := by rw [HKA2.out, h3]; rfl
                  subst hkd
                  have d48 : decide ((48 : Int) ≤ (fc : Int)) = true := by simp; omega
                  have d57 : decide ((fc : Int) ≤ 57) = false := by simp; omega
                  have d97 : decide ((97 : Int) ≤ (fc : Int)) = false := by simp; omega
                  have e95 : ((fc : Int) == 95) = true := by rw [h1]; rfl
                  clear h3
                  go_wp2_with fail
                  go_roundw
                  case rel => exact ⟨j + 1, by omega, by go_num, HKQ.out.drewN nq⟩
                  case measure => simp [intOf]; omega
                · have hkd : ka = 2 := by rw [HKA2.out, h3]; rfl
                  subst hkd
                  have d48 : decide ((48 : Int) ≤ (fc : Int)) = false := by simp; omega
                  have d97 : decide ((97 : Int) ≤ (fc : Int)) = false := by simp; omega
                  have e95 : ((fc : Int) == 95) = false := by rw [Bool.eq_false_iff]; intro h; have := beq_iff_eq.1 h; omega
                  clear h3
                  go_wp2_with fail
                  go_roundw
                  case rel => exact ⟨j + 1, by omega, by go_num, HKQ.out.drewN nq⟩
                  case measure => simp [intOf]; omega
                · have hkd : ka = 2 := by rw [HKA2.out, h3]; rfl
                  subst hkd
                  have d48 : decide ((48 : Int) ≤ (fc : Int)) = true := by simp; omega
                  have d57 : decide ((fc : Int) ≤ 57) = false := by simp; omega
                  have d97 : decide ((97 : Int) ≤ (fc : Int)) = false := by simp; omega
                  have e95 : ((fc : Int) == 95) = false := by rw [Bool.eq_false_iff]; intro h; have := beq_iff_eq.1 h; omega
                  clear h3
                  go_wp2_with fail
                  go_roundw
                  case rel => exact ⟨j + 1, by omega, by go_num, HKQ.out.drewN nq⟩
                  case measure => simp [intOf]; omega
                · have hkd : ka = 2 := by rw [HKA2.out, h3]; rfl
                  subst hkd
                  have d48 : decide ((48 : Int) ≤ (fc : Int)) = true := by simp; omega
                  have d57 : decide ((fc : Int) ≤ 57) = false := by simp; omega
                  have d97 : decide ((97 : Int) ≤ (fc : Int)) = true := by simp; omega
                  have d122 : decide ((fc : Int) ≤ 122) = false := by simp; omega
                  have e95 : ((fc : Int) == 95) = false := by rw [Bool.eq_false_iff]; intro h; have := beq_iff_eq.1 h; omega
                  clear h3
                  go_wp2_with fail
                  go_roundw
                  case rel => exact ⟨j + 1, by omega, by go_num, HKQ.out.drewN nq⟩
                  case measure => simp [intOf]; omega
            · go_wp2_with fail
              go_ret
              exact ⟨rfl, (HKA.out.trans HK2.out (by simp)).trans HKQ.out (by simp)⟩
    · have hle' : l1.length < l0.length := by omega
      go_enter Tryd.func4, Tryd.ntmps4
      go_wp2_with fail
      refine (HK0.out).mono ?_
      rintro e w1 ⟨rfl, hk1⟩
      have HK1 := Lib.hid hk1
      clear hk1
      go_wp2_with fail
      go_ret
      exact ⟨rfl, HK1.out⟩
  · have h60' : 60 < l0.length := by omega
    go_enter Tryd.func4, Tryd.ntmps4
    go_wp2_with fail
    refine (HK0.out).mono ?_
    rintro e w1 ⟨rfl, hk1⟩
    have HK1 := Lib.hid hk1
    clear hk1
    go_wp2_with fail
    go_ret
    exact ⟨rfl, HK1.out⟩
end Go.Proofs.YtieghhhiclpeiaaDoor
