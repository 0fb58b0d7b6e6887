/- Merged: DNew -/
import Derived.Test.YtbanpdeganlndaaGreatDoorQ1
import Derived.Laws.CopyRow
namespace Go.Proofs.YtbanpdeganlndaaGreatDoor
open Go.RowKit
open Reg (Is Fact)

attribute [local go_sem] Reg.lateFr Reg.wantedV Reg.gives_value Reg.gives_skip Reg.gives_enter
theorem mask_small (n : Nat) (h : n < 4294967296) : bits .and .u64 (n : Int) 4294967295 = (n : Int) := by
  have h1 := u64_and_nat n 4294967295 (by omega) (by omega)
  have e : n &&& 4294967295 = n := by
    have := Nat.and_two_pow_sub_one_eq_mod n 32
    rw [show (2 ^ 32 - 1 : Nat) = 4294967295 by decide] at this
    rw [this]; omega
  rw [e] at h1
  exact h1
set_option maxHeartbeats 800000 in
theorem mul64_one (w : World) (n : Nat) (hn : n ≤ 4096) : Calls Tryz.prog 69 #[.int .u64 1, .int .u64 (n : Int)] w fun e w' => e = .returned (.tuple #[.int .u64 0, .int .u64 (n : Int)]) ∧ w = w' := by
  have m1 : bits .and .u64 (1 : Int) 4294967295 = 1 := mask_small 1 (by omega)
  have m0 : bits .and .u64 (0 : Int) 4294967295 = 0 := mask_small 0 (by omega)
  have mn := mask_small n (by omega)
  have d0 : (n : Int) / 4294967296 = 0 := by omega
  go_enter Tryz.func69, Tryz.ntmps69
  go_wp2_with fail
  go_ret2
  simp
set_option maxHeartbeats 800000 in
theorem mul_one_any (w : World) (n : Nat) (hn : n ≤ 4096) : Calls Tryz.prog 42 #[.int .u64 1, .int .u64 (n : Int)] w fun e w' => e = .returned (.tuple #[.int .u64 0, .int .u64 (n : Int)]) ∧ w = w' := by
  go_enter Tryz.func42, Tryz.ntmps42
  go_wp2_with fail
  refine (mul64_one w n hn).mono ?_
  rintro e w' ⟨rfl, rfl⟩
  go_wp2_with fail
  go_ret2
  simp

theorem infoRow : (Tryz.prog.info? 62).map (fun i => (i.zero, i.size, i.bytes)) = some (some (.slice none 0 0), 1, 24) := by kernel_rfl
theorem elemRows : Tryz.prog.underlying 49 = some (.slice (Tryz.prog.elem 49)) := by
  rw [show Tryz.prog.elem 49 = 62 by kernel_rfl]; exact Tryz.underlying49
theorem rows_low {g n k : Nat} (hk : k < n) (w : World) : (Instr.slice 49 (.slice (some ⟨g, 0, none⟩) n n) (some (.int .i64 (k : Int))) none none).run Tryz.prog w = .ok (.slice (some ⟨g, k, none⟩) (n - k) (n - k)) w := by
  have := run_slice_l (P := Tryz.prog) w 49 (some ⟨g, 0, none⟩) n n elemRows .i64 (k : Int) (by omega) (by omega)
  rw [this]
  have hs : (sizeOf (Tryz.prog.elem 49)).run Tryz.prog w = .ok 1 w := by kernel_rfl
  rw [hs]
  have hne : n ≠ k := by omega
  simp [Result.andThen, sliced, hne, Addr.add_lit]
theorem rows_high {g n k : Nat} (hk : k ≤ n) (h0 : 0 < n) (w : World) : (Instr.slice 49 (.slice (some ⟨g, 0, none⟩) n n) none (some (.int .i64 (k : Int))) none).run Tryz.prog w = .ok (.slice (some ⟨g, 0, none⟩) k n) w := by
  have := run_slice_h (P := Tryz.prog) w 49 (some ⟨g, 0, none⟩) n n elemRows .i64 (k : Int) (by omega) (by omega)
  rw [this]
  have hs : (sizeOf (Tryz.prog.elem 49)).run Tryz.prog w = .ok 1 w := by kernel_rfl
  rw [hs]
  have hne : n ≠ 0 := by omega
  simp [Result.andThen, sliced, hne, Addr.add_lit]
theorem part_list {α : Type} (n k m : Nat) (v z : α) (hm : m ≤ n - k) : (List.replicate k v ++ List.replicate (n - k) z).take k ++ List.replicate m v ++ (List.replicate k v ++ List.replicate (n - k) z).drop (k + m) = List.replicate (k + m) v ++ List.replicate (n - (k + m)) z := by
  have e1 : (List.replicate k v ++ List.replicate (n - k) z).take k = List.replicate k v := by
    rw [List.take_append_of_le_length (by simp)]; simp
  have e2 : (List.replicate k v ++ List.replicate (n - k) z).drop (k + m) = List.replicate (n - (k + m)) z := by
    rw [List.drop_append, List.drop_eq_nil_of_le (by simp), List.nil_append, List.length_replicate, List.drop_replicate]
    congr 1; omega
  rw [e1, e2, List.replicate_append_replicate]
/-- A row of which the first k cells are v. -/
def part (n k : Nat) (v : Value) : Array Value := (List.replicate k v ++ List.replicate (n - k) (Value.slice none 0 0)).toArray
theorem part_size {n k : Nat} (v : Value) (hk : k ≤ n) : (part n k v).size = n := by simp [part]; omega
theorem part_cell {n k j : Nat} (v : Value) (hj : j < k) : (part n k v)[j]? = some v := by
  unfold part
  rw [List.getElem?_toArray, List.getElem?_append_left (by simpa using hj), List.getElem?_replicate, if_pos hj]
/-- copy(s[k:], s[:k]). -/
theorem part_copy {w : World} {g n k : Nat} {v : Value} (hv : v.oneCell' = true) (hg : w.heap[g]? = some (.cells (part n k v) 62 (0, 0))) (hk : k < n) (ty : TypeId) :
    (Builtin.copy_ #[49, 49] ty #[.slice (some ⟨g, k, none⟩) (n - k) (n - k), .slice (some ⟨g, 0, none⟩) k n]).run Tryz.prog w = .ok (goInt ((min k (n - k) : Nat))) (w.setRow g (part n (k + min k (n - k)) v)) := by
  have h := run_copy_row (P := Tryz.prog) w 49 49 ty 62 g k (n - k) (n - k) ⟨g, 0, none⟩ k n (part n k v) 62 (List.replicate (min k (n - k)) v) Tryz.underlying49 (by kernel_rfl) hg (by rw [List.length_replicate]) (fun j u hj => by
      rw [List.getElem?_replicate] at hj
      split at hj
      · cases hj
        rw [Addr.add_lit, row_cell hg]
        exact part_cell v (by omega)
      · cases hj) (by rw [part_size v (by omega), List.length_replicate]; omega) (fun u hu => by rw [(List.mem_replicate.1 hu).2]; exact hv)
  rw [h, List.length_replicate]
  have e := part_list n k (min k (n - k)) v (Value.slice none 0 0) (by omega)
  have e2 : ((part n k v).toList.take k ++ List.replicate (min k (n - k)) v ++ (part n k v).toList.drop (k + min k (n - k))).toArray = part n (k + min k (n - k)) v := by
    show (List.toArray _) = List.toArray _
    exact congrArg List.toArray e
  rw [e2]
theorem part_made {n : Nat} {cur : Array Value} (v : Value) (h1 : cur.size = n * 1) (h2 : cur.toList.take (n * 1) = (madeCells #[Value.slice none 0 0] n).toList) : cur = part n 0 v := by
  rw [List.take_of_length_le (by rw [Array.length_toList]; omega)] at h2
  apply Array.ext'
  rw [h2]
  unfold part
  simp only [List.replicate_zero, List.nil_append, Nat.sub_zero]
  apply List.ext_getElem
  · simp [madeCells]
  · intro j q1 q2
    simp [madeCells, Nat.mod_one]
/-- copy(s, x) of one element. -/
theorem part_first {w : World} {g gx n : Nat} {v : Value} (hv : v.oneCell' = true) (hg : w.heap[g]? = some (.cells (part n 0 v) 62 (0, 0))) (hc : w.cell? ⟨gx, 0, none⟩ = some v) (h1 : 1 ≤ n) (ty : TypeId) :
    (Builtin.copy_ #[49, 49] ty #[.slice (some ⟨g, 0, none⟩) n n, .slice (some ⟨gx, 0, none⟩) 1 1]).run Tryz.prog w = .ok (goInt 1) (w.setRow g (part n 1 v)) := by
  have h := run_copy_row (P := Tryz.prog) w 49 49 ty 62 g 0 n n ⟨gx, 0, none⟩ 1 1 (part n 0 v) 62 [v] Tryz.underlying49 (by kernel_rfl) hg (by simp only [List.length_cons, List.length_nil]; exact (Nat.min_eq_left h1).symm) (fun j u hj => by
      rcases j with _ | j
      · cases hj; exact hc
      · cases hj) (by rw [part_size v (by omega)]; simp; omega) (fun u hu => by obtain rfl : u = v := by simpa using hu
                                                                                exact hv)
  rw [h]
  have e2 : ((part n 0 v).toList.take 0 ++ [v] ++ (part n 0 v).toList.drop (0 + [v].length)).toArray = part n 1 v := by
    show (List.toArray _) = List.toArray _
    refine congrArg List.toArray ?_
    have := part_list n 0 1 v (Value.slice none 0 0) (by omega)
    exact this
  rw [e2]
  rfl
def iv : Value → Nat
  | .int _ z => z.toNat
  | _ => 0
theorem keeps_setRow {S : List Nat} {a w : World} {g : Nat} {cs : Array Value} (h : Keeps S a w) (hg : g < a.heap.size → g ∈ S) : Keeps S a (w.setRow g cs) := by
  have hk : Keeps [g] w (w.setRow g cs) := ⟨rfl, rfl, rfl, by simp [World.setRow], fun k _ hn => by
    have hne : g ≠ k := fun e => hn (by simp [e])
    simp [World.setRow, Array.getElem?_modify, hne]⟩
  refine h.trans hk (fun i hi hl => ?_)
  obtain rfl : i = g := by simpa using hi
  exact hg hl
/-- In the loop: before the copy, behind it. -/
def RC7 (w : World) (g n k : Nat) (v : Value) (L : Nat → Bool) (w' : World) : Prop :=
  Keeps [] w w' ∧ (L 7 = false → w'.heap[g]? = some (.cells (part n k v) 62 (0, 0))) ∧ (L 7 = true → w'.heap[g]? = some (.cells (part n (k + min k (n - k)) v) 62 (0, 0)))
theorem RC7.lay {w w' : World} {g n k i : Nat} {v : Value} {L : Nat → Bool} (hC : RC7 w g n k v L w') (hi : i ≠ 7) : RC7 w g n k v (Reg.lay L i) w' := by
  unfold RC7
  rw [lay_ne hi]
  exact hC
theorem Is.lastU {u : Value} : ∀ v w w', Is u v w → True → Is u v w' := fun _ _ _ h _ => h
def RepP (w : World) (n : Nat) (v : Value) (e : Ending) (w' : World) : Prop := ∃ g, e = .returned (.slice (some ⟨g, 0, none⟩) n n) ∧ w'.heap[g]? = some (.cells (part n n v) 62 (0, 0)) ∧ w.heap.size ≤ g ∧ Keeps [] w w'
set_option maxHeartbeats 2000000 in
set_option maxRecDepth 100000 in
theorem repeat_any (w : World) (gx gz sz cz : Nat) (hc : w.cell? ⟨gx, 0, none⟩ = some (.slice (some ⟨gz, 0, none⟩) sz cz)) (n : Nat) (h1 : 1 ≤ n) (hn : n ≤ 4096) :
    Calls Tryz.prog 27 #[.slice (some ⟨gx, 0, none⟩) 1 1, .int .i64 (n : Int)] w (RepP w n (.slice (some ⟨gz, 0, none⟩) sz cz)) := by
  obtain ⟨iR, hR, hR0, hR1, hR2⟩ := info_parts infoRow
  obtain ⟨v, hv⟩ : ∃ v, v = Value.slice (some ⟨gz, 0, none⟩) sz cz := ⟨_, rfl⟩
  rw [← hv] at hc ⊢
  have HV1 := Lib.hid (show v.oneCell' = true by rw [hv]; rfl)
  have HC := Lib.hid hc
  clear hv hc
  go_enter Tryz.func27, Tryz.ntmps27
  go_wp2_with fail
  refine (mul_one_any w n hn).mono ?_
  rintro e w' ⟨rfl, rfl⟩
  go_wp2_with (at_make; refine wpList_make_full _ rfl _ _ 49 rfl w.heap.size 62 iR (.slice none 0 0) 1 Tryz.underlying49 hR hR0 hR1 .i64 .i64 (n : Int) (n : Int) n rfl rfl rfl rfl (by rw [hR2]; omega) (by unfold maxLen; omega) (Nat.le_refl _) ?_)
  intro w1 ho1 hg1
  have hr1 : w1.heap[w.heap.size]? = some (.cells (part n 0 v) 62 (0, 0)) := by
    rcases ho1.2 with ⟨h0, _⟩ | ⟨g, cp, cur, h2, _, h3, _, _, h4, h5⟩
    · cases h0
    · cases h2
      rw [h3, part_made v h4 h5]
  have hk1 : Keeps [] w w1 := (Keeps.of_grown hg1).mono (by simp)
  have hlt := World.block_lt_of_cell? w _ HC.out
  have hcp := fun ty => part_first HV1.out hr1 (hk1.cell_some HC.out (by simp)) h1 ty
  have HR2 := Lib.hid (setRow_heap w1 w.heap.size (part n 0 v) (part n 1 v) _ _ hr1)
  have HK1 := Lib.hid hk1
  clear ho1 hg1 hk1
  go_wp2_with fail
  obtain ⟨w2, hw2⟩ : ∃ w2, w2 = w1.setRow w.heap.size (part n 1 v) := ⟨_, rfl⟩
  rw [← hw2] at HR2 ⊢
  have HK2 := Lib.hid (show Keeps [] w w2 by rw [hw2]; exact keeps_setRow HK1.out (by omega))
  clear hcp hw2 hr1
  go_loopw [8] (fun i wr => ∃ k : Nat, 1 ≤ k ∧ k ≤ n ∧ i = .int .i64 (k : Int) ∧ wr.heap[w.heap.size]? = some (.cells (part n k v) 62 (0, 0)) ∧ Keeps [] w wr) (fun i _ => n - iv i)
  case atStart => exact ⟨1, Nat.le_refl _, h1, rfl, HR2.out, HK2.out⟩
  case round =>
    obtain ⟨k, hk1, hkn, rfl, hrow, hkw⟩ := hrel
    have HROW := Lib.hid hrow
    have HKW := Lib.hid hkw
    clear hrow hkw
    by_cases hlt2 : k < n
    · have hsl := rows_low (g := w.heap.size) hlt2
      have hsh := rows_high (g := w.heap.size) (n := n) (k := k) (by omega) (by omega)
      have HSL := Lib.hid hsl
      have HSH := Lib.hid hsh
      clear hsl hsh
      obtain ⟨m, hm⟩ : ∃ m, m = min k (n - k) := ⟨_, rfl⟩
      have hm1 : 1 ≤ m ∧ k + m ≤ n := by omega
      have HM := Lib.hid hm
      clear hm
      go_wp2_with fail
      refine Reg.wp_region_late (A := ?A) (B := ?B) [0, 2, 5] [9] (fun L _ w' => RC7 w w.heap.size n k v L w') (fun _ _ => True)
        [Is (.int .i64 (k : Int)), Is (.slice (some ⟨w.heap.size, 0, none⟩) n n), Is (.int .i64 (k : Int)), Is (.slice (some ⟨w.heap.size, k, none⟩) (n - k) (n - k)), Is (.slice (some ⟨w.heap.size, 0, none⟩) n n), Is (.int .i64 (k : Int)), Is (.slice (some ⟨w.heap.size, 0, none⟩) k n), Is (.int .i64 (m : Int)), Is (.int .i64 ((k + m : Nat) : Int)), Is (.int .i64 ((k + m : Nat) : Int))]
        (by kernel_rfl) (by kernel_rfl) rfl ?hA ?hB ?hC ?ho ?hlast ?hend
      case hA => intro vs; simp only [Reg.fill, if_true, Nat.zero_add, Nat.reduceAdd, Act.put, List.setIfInBounds_toArray, List.set_cons_succ, List.set_cons_zero]; exact rfl
      case hB => intro vs; simp only [Reg.fill, List.contains_cons, List.contains_nil, Nat.zero_add, Nat.reduceAdd, Nat.reduceBEq, Bool.or_false, Bool.not_true, Bool.not_false, if_true, if_false, Bool.false_eq_true, Act.put, List.setIfInBounds_toArray, List.set_cons_succ, List.set_cons_zero]; exact rfl
      case hC => exact fun vs => ⟨HKW.out.drew, fun _ => HROW.out, fun hl => by simp at hl⟩
      case hlast => repeat (first | exact trivial | refine ⟨Is.lastU, ?_⟩)
      case ho =>
        have hwrap : IntKind.i64.wrap ((k : Int) + (m : Int)) = ((k + m : Nat) : Int) := by rw [IntKind.wrap_i64]; omega
        repeat' apply And.intro
        all_goals
          first
            | exact trivial
            | (intro Ls vs w' hC hL hd ha K hK
               try simp only [Reg.Deps, Reg.at_, List.getD_cons_zero, List.getD_cons_succ, Region.binds, true_implies, Is, and_true] at hd
               have ks := HSL.out w'
               have kh := HSH.out w'
               go_simp
               first
                 | exact hK _ _ (hC.lay (by decide)) trivial rfl
                 | skip)
        rw [part_copy HV1.out (hC.2.1 hL) hlt2 _]
        simp only [Result.andThen, Reg.gives_value]
        have hrow' := hC.2.1 hL
        refine hK _ _ ⟨keeps_setRow hC.1 (by omega), fun e => (by rw [lay_eq] at e; cases e), fun _ => setRow_heap w' _ _ _ _ _ hrow'⟩ trivial ?_
        rw [← HM.out]
        rfl
      case hend =>
        intro vs w4 hC hall
        simp only [Reg.All, Is, and_true, Nat.zero_add, Nat.reduceAdd] at hall
        have hv9 : vs 9 = .int .i64 ((k + m : Nat) : Int) := by simp only [hall]
        have HW4 := Lib.hid hC.1
        have HR4 := Lib.hid (hC.2.2 rfl)
        clear hC hall
        rw [hv9]
        clear hv9
        go_wp2_with fail
        go_roundw
        case rel => exact ⟨k + m, by omega, by omega, rfl, by rw [HM.out]; exact HR4.out, HW4.out⟩
        case measure => simp [iv]; omega
    · have hkn2 : k = n := by omega
      have HR := Lib.hid (show RepP w n v (.returned (.slice (some ⟨w.heap.size, 0, none⟩) n n)) wr from ⟨_, rfl, by have := HROW.out; rwa [hkn2] at this, Nat.le_refl _, HKW.out⟩)
      clear hkn2
      go_wp2_with fail
      go_ret
      exact HR.out

theorem infoDur : (Tryz.prog.info? 5).map (fun i => (i.zero, i.size, i.bytes)) = some (some (.int .u8 0), 1, 1) := infoU8
theorem zeros_made {w : World} {g n : Nat} {cur : Array Value} (hg : w.heap[g]? = some (.cells cur 5 (0, 0))) (h1 : cur.size = n * 1) (h2 : cur.toList.take (n * 1) = (madeCells #[Value.int .u8 0] n).toList) : BytesIn w g (some ⟨g, 0, none⟩) (List.replicate n 0) := by
  refine .inr ⟨0, rfl, fun k hk => ?_⟩
  rw [List.take_of_length_le (by rw [Array.length_toList]; omega)] at h2
  have hkn : k < n := by simpa using hk
  rw [row_cell hg, Nat.zero_add]
  have e : cur = madeCells #[Value.int .u8 0] n := Array.ext' h2
  rw [e]
  simp [madeCells, hkn, Nat.mod_one]
def NewP (w : World) (d : Dk) (e : Ending) (w' : World) : Prop := ∃ h B, e = .returned (.pointer (some ⟨h.p, 0, none⟩)) ∧ DskAt w' h B d ∧ (∀ x ∈ h.l, w.heap.size ≤ x) ∧ (∀ x, B x → w.heap.size ≤ x) ∧ Keeps [] w w'
theorem newP_of {w w4 : World} {n s gz gd gm gp cz : Nat} (hn : 1 ≤ n ∧ n ≤ 4096) (hs : 64 ≤ s ∧ s ≤ 4096) (hcz : s ≤ cz ∧ cz ≤ maxLen)
    (hz : BytesIn w4 gz (some ⟨gz, 0, none⟩) (List.replicate s 0)) (hd : w4.heap[gd]? = some (.cells (part n n (.slice (some ⟨gz, 0, none⟩) s cz)) 62 (0, 0))) (hm : w4.heap[gm]? = some (.map #[] 0))
    (hp : w4.heap[gp]? = some (.cells #[.int .i64 (s : Int), .slice (some ⟨gd, 0, none⟩) n n, .map (some gm), .bool false, .bool false, .int .i64 0] 56 (0, 0)))
    (h1 : w.heap.size ≤ gz ∧ w.heap.size ≤ gd ∧ w.heap.size ≤ gm ∧ w.heap.size ≤ gp) (hne : gz ≠ gd ∧ gz ≠ gm ∧ gz ≠ gp) (hk : Keeps [] w w4) : NewP w (Dk.new n s) (.returned (.pointer (some ⟨gp, 0, none⟩))) w4 := by
  have e1 : (min (max (s : Int) 64) 4096).toNat = s := by omega
  have e2 : (min (max (n : Int) 1) 4096).toNat = n := by omega
  have hdur : (Dk.new n s).dur = List.replicate n (List.replicate s 0) := by simp only [Dk.new, e1, e2]
  have hlen : (Dk.new n s).dur.length = n := by rw [hdur, List.length_replicate]
  refine ⟨⟨gp, gd, gm⟩, fun x => x = gz, rfl, ⟨Dk.ok_new _ _, ⟨n, ?_⟩, ⟨_, hd, fun i hi => ?_⟩, ⟨0, .map [], ⟨#[], 0, hm, ⟨by simp, MapKept.stamped_empty 0, by simp⟩, Nat.le_refl _, rfl⟩, fun kl hkl => (by simp [Maps.has] at hkl), fun i b hb => (by simp [Dk.new] at hb)⟩, ⟨Ne.symm hne.2.2, Ne.symm hne.1, Ne.symm hne.2.1⟩, fun x hx => ?_⟩, fun x hx => ?_, fun x hx => by rw [hx]; exact h1.1, hk⟩
  · rw [hlen]
    simp only [Dk.new, e1]
    exact hp
  · have hi' : i < n := by omega
    refine ⟨_, part_cell _ hi', gz, 0, cz, ?_, ?_, ?_, hcz.2, rfl⟩
    · simp only [hdur, List.getElem_replicate, List.length_replicate]
    · simp only [hdur, List.getElem_replicate]; exact hz
    · simp only [hdur, List.getElem_replicate, List.length_replicate]; exact hcz.1
  · rw [hx]; exact hz.lt (by simp; omega)
  · simp [DH.l] at hx
    rcases hx with rfl | rfl | rfl
    · exact h1.2.2.2
    · exact h1.2.1
    · exact h1.2.2.1
set_option maxHeartbeats 2000000 in
set_option maxRecDepth 100000 in
theorem new_any (w : World) (n s : Nat) (hn : 1 ≤ n ∧ n ≤ 4096) (hs : 64 ≤ s ∧ s ≤ 4096) : Calls Tryz.prog 11 #[.int .i64 (n : Int), .int .i64 (s : Int)] w (NewP w (Dk.new n s)) := by
  obtain ⟨iU, hU, hU0, hU1, hU2⟩ := info_parts infoDur
  have hmm := @run_makeMap Tryz.prog
  go_enter Tryz.func11, Tryz.ntmps11
  go_wp2_with (at_make; refine wpList_make_full _ rfl _ _ 62 rfl w.heap.size 5 iU (.int .u8 0) 1 Tryz.underlying62 hU hU0 hU1 .i64 .i64 (s : Int) (s : Int) s rfl rfl rfl rfl (by rw [hU2]; omega) (by unfold maxLen; omega) (Nat.le_refl _) ?_)
  intro w1 ho1 hg1
  have hk1 : Keeps [] w w1 := (Keeps.of_grown hg1).mono (by simp)
  have hz1 : BytesIn w1 w.heap.size (some ⟨w.heap.size, 0, none⟩) (List.replicate s 0) := by
    rcases ho1.2 with ⟨h0, _⟩ | ⟨g, cp, cur, h2, _, h3, _, _, h4, h5⟩
    · cases h0
    · cases h2
      exact zeros_made h3 h4 h5
  have hlt1 : w.heap.size < w1.heap.size := hz1.lt (by simp; omega)
  have HZ1 := Lib.hid hz1
  have HK1 := Lib.hid hk1
  clear ho1 hg1 hk1 hz1
  go_wp2_with fail
  refine (repeat_any (w1.alloc (.cells #[.slice (some ⟨w.heap.size, 0, none⟩) s s] 62)) w1.heap.size w.heap.size s s (by rw [row_cell (heap_alloc_new w1 _)]; rfl) n hn.1 hn.2).mono ?_
  rintro e w3 ⟨gd, rfl, hd, hgd, hk3⟩
  have hk13 : Keeps [] w1 w3 := ((Keeps.refl [] w1).alloc _).trans hk3 (by simp)
  have hgd1 : w1.heap.size < gd := by simp at hgd; omega
  have hgd3 := block_lt hd
  have HD := Lib.hid hd
  have HK3 := Lib.hid hk13
  clear hd hgd hk3 hk13
  go_wp2_with fail
  go_ret
  have hm : ((w3.alloc (.map #[] 0)).alloc (.cells #[.int .i64 (s : Int), .slice (some ⟨gd, 0, none⟩) n n, .map (some w3.heap.size), .bool false, .bool false, .int .i64 0] 56)).heap[w3.heap.size]? = some (.map #[] 0) := block_keep (heap_alloc_new w3 _) ((Keeps.refl [] _).alloc _) (by simp)
  have hk4 : Keeps [] w3 ((w3.alloc (.map #[] 0)).alloc (.cells #[.int .i64 (s : Int), .slice (some ⟨gd, 0, none⟩) n n, .map (some w3.heap.size), .bool false, .bool false, .int .i64 0] 56)) := ((Keeps.refl [] _).alloc _).alloc _
  have hp := heap_alloc_new (w3.alloc (.map #[] 0)) (.cells #[.int .i64 (s : Int), .slice (some ⟨gd, 0, none⟩) n n, .map (some w3.heap.size), .bool false, .bool false, .int .i64 0] 56)
  have hsz : (w3.alloc (.map #[] 0)).heap.size = w3.heap.size + 1 := by simp
  rw [hsz] at hp
  exact newP_of (cz := s) hn hs ⟨Nat.le_refl _, by unfold maxLen; omega⟩ ((HZ1.out.keep HK3.out (by simp)).keep hk4 (by simp)) (block_keep HD.out hk4 (by simp)) hm hp ⟨Nat.le_refl _, by omega, by omega, by omega⟩ ⟨by omega, by omega, by omega⟩ ((HK1.out.trans HK3.out (by simp)).trans hk4 (by simp))
end Go.Proofs.YtbanpdeganlndaaGreatDoor
