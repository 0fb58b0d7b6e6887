/- CodeCuts: the walk. -/
import Derived.Test.YtpjnckdekoooeaaCTogWalk
namespace Go.Proofs.Ytpjnckdekoooeaa.codeCuts
open Go.RowKit
open Reg (Is Fact)
open codeTogether (CT GT OneF pick)

theorem infoInt : (Try.prog.info? 3).map (fun i => (i.zero, i.size, i.bytes)) = some (some (.int .i64 0), 1, 8) := by kernel_rfl
theorem encT_eq (s : ByteArray) : encT s = M.encText s.data.toList := rfl
theorem encT_size (s : ByteArray) : (encT s).length = (M.enc s.size).length + s.size := by
  unfold encT M.encText
  rw [List.length_append, Array.length_toList]
  rfl
theorem encT_pos (s : ByteArray) : 0 < (encT s).length := by have := encT_size s; have := M.enc_pos s.size; omega
theorem flat_len200 : ∀ (ss : List ByteArray), (∀ s ∈ ss, s.size ≤ 200) → (ss.flatMap encT).length ≤ 210 * ss.length
  | [], _ => by simp
  | s :: r, h => by
    have h1 := flat_len200 r (fun m hm => h m (by simp [hm]))
    have h2 := h s (by simp)
    have h3 := M.enc_len64 (n := s.size) (by omega)
    have h4 := encT_size s
    simp only [List.flatMap_cons, List.length_append, List.length_cons]
    omega
/-- Where the i-th text ends. -/
def F (ss : List ByteArray) (i : Nat) : Nat := ((ss.take i).flatMap encT).length
theorem F_succ {ss : List ByteArray} {i : Nat} (h : i < ss.length) : F ss (i + 1) = F ss i + (encT ss[i]).length := by
  unfold F
  rw [List.take_succ_eq_append_getElem h]
  simp only [List.flatMap_append, List.flatMap_cons, List.flatMap_nil, List.append_nil, List.length_append]
theorem F_all (ss : List ByteArray) : F ss ss.length = (ss.flatMap encT).length := by unfold F; rw [List.take_of_length_le (Nat.le_refl _)]
theorem F_le (ss : List ByteArray) (i : Nat) : F ss i ≤ (ss.flatMap encT).length := flat_take_len encT ss i
def ends (ss : List ByteArray) (k : Nat) : List Value := (List.range k).map fun i => .int .i64 ((F ss (i + 1) : Nat) : Int)
theorem ends_succ (ss : List ByteArray) (k : Nat) : ends ss (k + 1) = ends ss k ++ [.int .i64 ((F ss (k + 1) : Nat) : Int)] := by simp [ends, List.range_succ]
theorem strOf_data (s : ByteArray) : strOf s.data.toList = s := by cases s; rfl

/-- What is left to read behind i texts, of the bytes up to k. -/
def Lft (ss : List ByteArray) (i k : Nat) : List UInt8 := ((ss.drop i).flatMap encT).take (k - F ss i)
theorem Lft_zero (ss : List ByteArray) (k : Nat) : Lft ss 0 k = (ss.flatMap encT).take k := by simp [Lft, F]
theorem drop_split {ss : List ByteArray} {i : Nat} (h : i < ss.length) : (ss.drop i).flatMap encT = encT ss[i] ++ (ss.drop (i + 1)).flatMap encT := by
  rw [List.drop_eq_getElem_cons h, List.flatMap_cons]
theorem read_whole {ss : List ByteArray} {i k : Nat} (h : i < ss.length) (hs : ss[i].size ≤ 200) (hk : F ss (i + 1) ≤ k) : M.decText (Lft ss i k) = some (ss[i].data.toList, Lft ss (i + 1) k) := by
  have hf := F_succ h
  unfold Lft
  rw [drop_split h, List.take_append, List.take_of_length_le (by omega), encT_eq, M.decText_back (by rw [Array.length_toList]; have : ss[i].data.size = ss[i].size := rfl; omega), ← encT_eq]
  rw [show k - F ss i - (encT ss[i]).length = k - F ss (i + 1) by omega]
theorem read_cut {ss : List ByteArray} {i k : Nat} (h : i < ss.length) (hs : ss[i].size ≤ 200) (h1 : F ss i ≤ k) (hk : k < F ss (i + 1)) : M.decText (Lft ss i k) = none := by
  have hf := F_succ h
  unfold Lft
  rw [drop_split h, List.take_append_of_le_length (by omega), encT_eq]
  exact M.decText_cut (by rw [Array.length_toList]; have : ss[i].data.size = ss[i].size := rfl; omega) (by rw [← encT_eq]; omega)

theorem place_any (a : Int) (n : Nat) (hn : 0 < n) (hn2 : n ≤ 100000) (ha : Wide a) (w : World) :
    Calls Try.prog 36 #[.int .i64 a, .int .i64 (n : Int)] w fun e w' => ∃ k : Nat, k < n ∧ e = .returned (.int .i64 (k : Int)) ∧ w = w' := by
  obtain ⟨m, hm⟩ : ∃ m, m = a.tmod (n : Int) := ⟨_, rfl⟩
  have hb : -(n : Int) < m ∧ m < n := by
    have h1 := Int.natAbs_tmod a (n : Int)
    have h2 := Nat.mod_lt a.natAbs (show 0 < (n : Int).natAbs by omega)
    rw [hm]
    omega
  have hm' : a.tmod (n : Int) = m := hm.symm
  have hn0 : ¬ (n : Int) = 0 := by omega
  obtain ⟨hb1, hb2⟩ := hb
  clear hm
  by_cases hneg : m < 0
  · have HK := Lib.hid (show (m + n).toNat < n ∧ (((m + n).toNat : Nat) : Int) = m + n by omega)
    go_enter Try.func36, Try.ntmps36
    go_wp2_with fail
    go_ret
    exact ⟨(m + n).toNat, HK.out.1, by rw [HK.out.2]; rfl, rfl⟩
  · have HK := Lib.hid (show m.toNat < n ∧ ((m.toNat : Nat) : Int) = m by omega)
    have hpos : 0 ≤ m := by omega
    clear hneg
    go_enter Try.func36, Try.ntmps36
    go_wp2_with fail
    go_ret
    exact ⟨m.toNat, HK.out.1, by rw [HK.out.2]; rfl, rfl⟩

/-- Behind k texts: the writer has them, v has their ends. -/
def One (w wr : World) (p g : Nat) (v : Value) (ss : List ByteArray) (k : Nat) : Prop :=
  WrAt wr p g ((ss.take k).flatMap encT) ∧ wr.ownsRow 0 3 1 v k (ends ss k) ∧ (∀ x, v.ownBlock = some x → x ≠ p ∧ x ≠ g ∧ w.heap.size ≤ x) ∧ Keeps [] w wr ∧ w.heap.size ≤ p ∧ w.heap.size ≤ g
theorem own_ne {w : World} {base base' : Nat} {e e' : TypeId} {n n' : Nat} {v v' : Value} {xs xs' : List Value} (h : w.ownsRow base e 1 v n xs) (h' : w.ownsRow base' e' 1 v' n' xs') (hne : e ≠ e') : v.ownBlock = none ∨ v.ownBlock ≠ v'.ownBlock := by
  rcases h.2 with ⟨rfl, _⟩ | ⟨g, cap, cur, rfl, _, hg, _⟩
  · exact .inl rfl
  · refine .inr ?_
    rcases h'.2 with ⟨rfl, _⟩ | ⟨g', cap', cur', rfl, _, hg', _⟩
    · simp [Value.ownBlock]
    · intro he
      obtain rfl : g = g' := by simpa [Value.ownBlock] using he
      rw [hg] at hg'
      simp at hg'
      exact hne hg'.2

/-- The reader behind j texts of those whose bytes are cut off at k. -/
def Rds (w : World) (r gr : Nat) (ss : List ByteArray) (j k : Nat) : Prop := (F ss j ≤ k ∧ RdAt w r gr (Lft ss j k) false) ∨ (k < F ss j ∧ ∃ l', RdAt w r gr l' true)

attribute [local go_sem] Reg.wantedV Reg.gives_value Reg.gives_skip Reg.gives_enter

set_option maxHeartbeats 4000000 in
set_option maxRecDepth 100000 in
theorem walk_light (w : World) (hbc : Nat) (Ac : Option Addr) (capc : Nat) (ss : List ByteArray) (at_ : Int) (HAT : Hid (Wide at_))
    (HRc : Hid (CellsIn w hbc Ac (texts ss))) (HS : Hid (∀ s ∈ ss, s.size ≤ maxLen)) (ls0 : 0 < ss.length) (ls : ss.length ≤ 10) :
    Calls Try.prog 7 #[.slice Ac ss.length capc, .int .i64 at_] w fun e w' => e = .returned (.bool true) ∧ Below w.heap.size w w' := by
  obtain ⟨i0, hi, hz0, hz1, hz2⟩ := info_parts infoInt
  have hls0 : ((ss.length : Int) == 0) = false := by rw [beq_eq_false_iff_ne]; omega
  go_enter Try.func7, Try.ntmps7
  go_wp2_with fail
  refine (known_any w).mono ?_
  rintro e w0 ⟨rfl, hk0⟩
  have HK0 := Lib.hid hk0
  clear hk0
  go_wp2_with fail
  refine (newWriter_any w0).mono ?_
  rintro e w1 ⟨p, rfl, hp, hw1, hk1⟩
  have HO0 : Hid (One w w1 p p (.slice none 0 0) ss 0) := Lib.hid (by
    have h3 := HK0.out.size
    exact ⟨by simpa using hw1, World.ownsRow_nil _ _ _ _, by simp [Value.ownBlock], HK0.out.trans hk1 (by simp), by omega, by omega⟩)
  clear hp hw1 hk1
  go_wp2_with fail
  go_loopw [6, 7] (fun v i wr => ∃ k g : Nat, k ≤ ss.length ∧ i = .int .i64 k ∧ One w wr p g v ss k ∧ ∀ s ∈ ss.take k, s.size ≤ 200) (fun _ i _ => ss.length - (intOf i).toNat)
  case atStart => exact ⟨0, p, Nat.zero_le _, rfl, HO0.out, by simp⟩
  case round =>
    obtain ⟨k, g, hk, rfl, ho, hall⟩ := hrel
    have HO := Lib.hid ho
    have HALL := Lib.hid hall
    clear ho hall
    by_cases hlt : k < ss.length
    · rcases HRc.out with h0 | ⟨off, rfl, hcell⟩
      · have : ss = [] := by simpa [texts] using h0
        subst this; simp at hlt
      · have hc := hcell k (by simpa [texts] using hlt)
        rw [texts_get hlt] at hc
        have hsz := HS.out _ (List.getElem_mem hlt)
        have hbl : hbc < w.heap.size := World.block_lt_of_cell? w _ hc
        have HNOT : Hid (hbc ∉ [p, g]) := Lib.hid (by have h1 := HO.out.2.2.2.2; simp; omega)
        have HE := Lib.hid (flat_next encT [] hlt)
        have HTK := Lib.hid (List.take_succ_eq_append_getElem hlt)
        have HF := Lib.hid (F_succ hlt)
        obtain ⟨n, hn⟩ : ∃ n, n = ss[k] := ⟨_, rfl⟩
        rw [← hn] at hc hsz HE HTK HF
        have hcw := HO.out.2.2.2.1.cell_some hc (by simp)
        unfold maxLen at hsz
        clear hc hcell hn hbl
        by_cases hlong : n.size ≤ 200
        · have HALL' : Hid (∀ s ∈ ss.take (k + 1), s.size ≤ 200) := Lib.hid (by
            rw [HTK.out]
            intro s hs
            rcases List.mem_append.1 hs with h | h
            · exact HALL.out s h
            · obtain rfl : s = n := by simpa using h
              exact hlong)
          have HFL : Hid (((ss.take (k + 1)).flatMap encT).length ≤ 2100) := Lib.hid (by
            have := flat_len200 (ss.take (k + 1)) HALL'.out
            have h2 : (ss.take (k + 1)).length ≤ 10 := by simp; omega
            omega)
          go_wp2_with fail
          refine Reg.wp_region_state (A := ?Ara) (CT wr p g ((ss.take k).flatMap encT ++ encT n)) (GT p g)
            [Is (.pointer (some ⟨p, 0, none⟩)), Is (.pointer (some ⟨p, 0, none⟩)), Is (.pointer (some ⟨p, 0, none⟩)), Is (.slice (some ⟨hbc, off, none⟩) ss.length capc), Is (.int .i64 (k : Int)), Is (.pointer (some ⟨hbc, off + k, none⟩)), Is (.string n), OneF p g (.string n), Is (.tuple #[])]
            (by kernel_rfl) (by kernel_rfl) rfl ?hAra ?hCra ?hora ?hlastra ?hendra
          case hAra => intro vs; simp only [Reg.fill, if_true, Nat.zero_add, Nat.reduceAdd, Act.put, List.setIfInBounds_toArray, List.set_cons_succ, List.set_cons_zero]; exact rfl
          case hCra => exact ⟨(Keeps.refl _ _).drew, fun _ => (Keeps.refl _ _).drew, fun h => by simp at h⟩
          case hlastra => repeat (first | exact trivial | refine ⟨codeTogether.Is.lastT, ?_⟩ | refine ⟨OneF.last, ?_⟩)
          case hora =>
            repeat' apply And.intro
            all_goals
              first
                | exact trivial
                | (intro L vs w' hC hL hd K hK
                   try simp only [Reg.Deps, Reg.at_, List.getD_cons_zero, List.getD_cons_succ, Region.binds, true_implies, Is, and_true] at hd
                   have hcw' := hC.1.cell_some hcw HNOT.out
                   go_simp
                   first
                     | exact hK _ _ (hC.lay (by decide) (Keeps.refl _ _)) (GT.same _ _ _) rfl
                     | skip)
            · exact hK _ _ (hC.lay (by decide) ((Keeps.refl _ _).alloc _)) (GT.of ((Keeps.refl _ _).alloc _)) (OneF.new HO.out.1.lt (hC.1.size))
            · obtain ⟨-, x, hx, hxb, hx1, hx2⟩ := hd
              rw [hx]
              have hk8 := hC.2.1 hL
              refine (text_any w' p g x ((ss.take k).flatMap encT) (some ⟨x, 0, none⟩) [n] 1 (HO.out.1.keep hk8 (by simp) (by simp)) (.inr ⟨0, rfl, fun j hj => ?_⟩) hx1 hx2 (by simp) (by
                have h1 := HFL.out
                rw [← List.nil_append ((ss.take (k + 1)).flatMap encT), ← HE.out, List.nil_append, List.length_append] at h1
                simp only [List.flatMap_cons, List.flatMap_nil, List.append_nil]
                omega)).mono ?_
              · obtain rfl : j = 0 := by simpa [texts] using hj
                simpa [texts] using hxb
              · rintro e w'' ⟨rfl, h', q1, q2, q3⟩
                exact ⟨_, rfl, hK _ _ (CT.done hk8 (by simpa using q1) q2 q3) q3 rfl⟩
          case hendra =>
            intro vs w2 hC hall
            obtain ⟨g2, hw2, hg2, hk2⟩ := hC.2.2 rfl
            have he := HE.out
            rw [List.nil_append, List.nil_append] at he
            rw [he] at hw2
            have HW2 := Lib.hid hw2
            have HG2 := Lib.hid hg2
            have HK2 := Lib.hid hk2
            have HO2 := Lib.hid (owned_keep HO.out.2.1 hk2 (fun x hx => by have := HO.out.2.2.1 x hx; simp; omega))
            have HFL2 := Lib.hid (show ((ss.take (k + 1)).flatMap encT).length = F ss (k + 1) from rfl)
            clear hall hC hw2 hg2 hk2 he
            go_wp2_with fail
            refine (bytes_any w2 p g2 _ HW2.out (by have := HFL.out; omega)).mono ?_
            rintro e w3 ⟨A3, c3, b3, rfl, hb3, hg3, _, _, _, hk3⟩
            rw [HFL2.out]
            have HO3 := Lib.hid (owned_keep HO2.out hk3 (by simp))
            have HK3 := Lib.hid hk3
            clear hb3 hg3 hk3
            go_wp2_with (at_builtin; refine wpList_append_own_at _ rfl _ _ 70 rfl 0 3 i0 (.int .i64 0) 1 8 Try.underlying70 hi hz0 hz1 hz2 rfl (by decide) _ k (ends ss k) rfl (HO3.out.alloc _) ⟨w3.heap.size, 0, none⟩ 1 1 [.int .i64 ((F ss (k + 1) : Nat) : Int)] rfl rfl (cell_one_new _ _ _) ?qa2 ?qa3 ?qa4 ?qa5 ?_)
            case qa2 => intro u hu; simp at hu; subst hu; rfl
            case qa3 => unfold maxLen; omega
            case qa4 => omega
            case qa5 => simp
            intro v1 w4 h1 h2 _ h3
            have HR := Lib.hid (show One w w4 p g2 v1 ss (k + 1) by
              have e1 := own_any HO3.out
              have k24 : Keeps [] w2 (w3.alloc (.cells #[.int .i64 ((F ss (k + 1) : Nat) : Int)] 3)) := HK3.out.alloc _
              have hxs := HO.out.2.2.1
              have hs0 := HO.out.2.2.2.1.size
              have hs2 := HK2.out.size
              have hs3 := HK3.out.size
              have hlt2 := HW2.out.lt
              have hltr := HO.out.1.lt
              have hown := HO.out.2.1.lt
              have hkk : Keeps _ _ w4 := k24.mono (T := _) (by simp) |>.trans (Keeps.of_grown h2) (fun _ h _ => h)
              have hgg := HG2.out
              have hpp := HO.out.2.2.2.2
              refine ⟨HW2.out.keep hkk (fun hm => ?_) (fun hm => ?_), by rw [ends_succ]; exact h1, fun x hx => ?_, (HO.out.2.2.2.1.trans HK2.out (by intro i hi hl; simp at hi; omega)).trans hkk (fun i hi hl => ?_), by omega, by omega⟩
              · have := hxs p (by simpa using hm); omega
              · have h5 := hxs g2 (by simpa using hm)
                have h6 := hown g2 (by simpa using hm)
                omega
              · rcases h3 with h3 | h3
                · have h5 := hxs x (by rw [← h3]; exact hx)
                  have h6 := hown x (by rw [← h3]; exact hx)
                  omega
                · rw [h3] at hx
                  have := Option.some.inj hx
                  omega
              · have := (hxs i (by simpa using hi)).2.2; omega)
            have hv1 : ∃ A c, v1 = .slice A (k + 1) c := own_any h1
            obtain ⟨A1, c1, rfl⟩ := hv1
            clear h1 h2 h3
            go_wp2
            go_roundw
            case rel => exact ⟨k + 1, g2, by omega, by go_num, HR.out, HALL'.out⟩
            case measure => simp [intOf]; omega
        · have hlong' : 200 < n.size := by omega
          clear hlong
          go_wp2
          go_ret
          exact ⟨rfl, HO.out.2.2.2.1.below (by simp) (Nat.le_refl _)⟩
    · have hke : k = ss.length := by omega
      subst hke
      have HSM : Hid (∀ s ∈ ss, s.size ≤ 200) := Lib.hid (by have := HALL.out; rwa [List.take_of_length_le (by omega)] at this)
      clear HALL
      obtain ⟨wq, rfl⟩ : ∃ wq : World, wq = wr := ⟨_, rfl⟩
      obtain ⟨hwr, hown, hsep, hkeep, hwp, hwg⟩ := HO.out
      obtain ⟨x, cx, rfl⟩ := own_slice hown ls0
      have hxw : w.heap.size ≤ x := (hsep x rfl).2.2
      have hxc : ∀ j, j < ss.length → wq.cell? ⟨x, j, none⟩ = some (.int .i64 ((F ss (j + 1) : Nat) : Int)) := fun j hj => by
        have := hown.cells (g := x) rfl j (.int .i64 ((F ss (j + 1) : Nat) : Int)) (by simp [ends, hj])
        rw [Addr.add_lit, Nat.zero_add] at this
        exact this
      have hxs : x < wq.heap.size := (hown.lt x rfl).2
      rw [List.take_of_length_le (Nat.le_refl _)] at hwr
      obtain ⟨Lb, hLb⟩ : ∃ Lb, Lb = ss.flatMap encT := ⟨_, rfl⟩
      rw [← hLb] at hwr
      have hlen : Lb.length ≤ 2100 := by rw [hLb]; have := flat_len200 ss HSM.out; omega
      have hpos : 0 < Lb.length := by
        rw [hLb]
        have h1 := F_succ (ss := ss) (i := 0) ls0
        have h2 := encT_pos ss[0]
        have h3 := F_le ss (0 + 1)
        omega
      have hl0 : ((Lb.length : Int) == 0) = false := by rw [beq_eq_false_iff_ne]; omega
      have HWR := Lib.hid hwr
      have HKP := Lib.hid hkeep
      have HXC := Lib.hid hxc
      have HLB := Lib.hid hLb
      have HXS := Lib.hid hxs
      clear hwr hown hsep hkeep hwp hwg hxc hLb hxs HO
      go_wp2_with fail
      refine (bytes_any wq p g Lb HWR.out (by omega)).mono ?_
      rintro e w3 ⟨A3, c3, b3, rfl, hb3, hg3, hc3, _, _, hk3⟩
      have HB3 := Lib.hid hb3
      have HK3 := Lib.hid hk3
      clear hb3 hg3 hk3
      go_wp2_with fail
      refine (place_any at_ Lb.length hpos (by omega) HAT.out w3).mono ?_
      rintro e w' ⟨k, hk2, rfl, rfl⟩
      obtain ⟨A4, hS4, hB4⟩ := slice_high (A := A3) (show k ≤ Lb.length by omega) hc3
      have hB4' := hB4 w3 b3 Lb rfl HB3.out
      have HB4 := Lib.hid hB4'
      clear hB4 hB4'
      go_wp2_with fail
      have hnr := newReader_any w3 b3 A4 (Lb.take k) c3 HB4.out (by simp; omega)
      rw [show (Lb.take k).length = k by simp; omega] at hnr
      refine hnr.mono ?_
      clear hnr
      rintro e w4 ⟨r, gr, rfl, hr4, hr, hgr, hk4⟩
      have HR0 : Hid (Rds w4 r gr ss 0 k) := Lib.hid (.inl ⟨by simp [F], by rw [Lft_zero, ← HLB.out]; exact hr4⟩)
      have HK4 := Lib.hid (HK3.out.trans hk4 (by simp))
      have HRW := Lib.hid hr
      have HS3 := Lib.hid HK3.out.size
      have HKF : Hid (k < F ss ss.length) := Lib.hid (by rw [F_all, ← HLB.out]; exact hk2)
      clear hr4 hr hgr hk4
      go_wp2_with fail
      obtain ⟨wo, rfl⟩ : ∃ wo : World, wo = w4 := ⟨_, rfl⟩
      go_loopw [11] (fun i w5 => ∃ j : Nat, j ≤ ss.length ∧ i = .int .i64 j ∧ Rds w5 r gr ss j k ∧ Keeps [r] wo w5) (fun i _ => ss.length - (intOf i).toNat)
      case atStart => exact ⟨0, Nat.zero_le _, rfl, HR0.out, Keeps.refl _ _⟩
      case round =>
        obtain ⟨w5, rfl⟩ : ∃ w5 : World, w5 = wr := ⟨_, rfl⟩
        obtain ⟨j, hj, rfl, hrd, hk5⟩ := hrel
        have HK5 := Lib.hid hk5
        have HRD := Lib.hid hrd
        clear hrd hk5
        by_cases hlt : j < ss.length
        · rcases HRc.out with h0 | ⟨off, rfl, hcell⟩
          · have : ss = [] := by simpa [texts] using h0
            subst this; simp at hlt
          · have hc := hcell j (by simpa [texts] using hlt)
            rw [texts_get hlt] at hc
            have hbl : hbc < w.heap.size := World.block_lt_of_cell? w _ hc
            have hs200 := HSM.out _ (List.getElem_mem hlt)
            have HRW1 := Lib.hid (fun hke : F ss (j + 1) ≤ k => read_whole hlt hs200 hke)
            have HRC1 := Lib.hid (fun (h1 : F ss j ≤ k) (hke : k < F ss (j + 1)) => read_cut hlt hs200 h1 hke)
            have HFM : Hid (F ss j ≤ F ss (j + 1)) := Lib.hid (by rw [F_succ hlt]; omega)
            obtain ⟨n, hn⟩ : ∃ n, n = ss[j] := ⟨_, rfl⟩
            rw [← hn] at hc HRW1
            have hsr : w.heap.size ≤ r := by have h1 := HKP.out.size; have h2 := HS3.out; have h3 := HRW.out; omega
            have hcw : ∀ w6, Keeps [r] wq w6 → w6.cell? ⟨hbc, off + j, none⟩ = some (.string n) := fun w6 hk6 => hk6.cell_some (HKP.out.cell_some hc (by simp)) (by simp; omega)
            have hxr : ∀ w6, Keeps [r] wq w6 → w6.cell? ⟨x, j, none⟩ = some (.int .i64 ((F ss (j + 1) : Nat) : Int)) := fun w6 hk6 => hk6.cell_some (HXC.out j hlt) (by have h1 := HXS.out; have h2 := HS3.out; have h3 := HRW.out; simp; omega)
            have HCW := Lib.hid hcw
            have HXR := Lib.hid hxr
            have HK5' : Hid (Keeps [r] wq w5) := Lib.hid ((HK4.out.mono (by simp)).trans HK5.out (fun _ h _ => h))
            clear hc hcell hcw hxr hbl hn hs200
            obtain ⟨fe, hfe⟩ : ∃ fe, fe = F ss (j + 1) := ⟨_, rfl⟩
            rw [← hfe] at HXR
            have HFE := Lib.hid hfe
            clear hfe
            go_wp2_with fail
            by_cases hke : fe ≤ k
            · have hkf : F ss (j + 1) ≤ k := by rw [← HFE.out]; exact hke
              rcases HRD.out with ⟨h1, h2⟩ | ⟨h1, l', h2⟩
              · refine (Text_gave w5 r gr (Lft ss j k) (Lft ss (j + 1) k) (.string n) h2 (fun w1 h => by have := text_ok h (HRW1.out hkf); rwa [strOf_data] at this)).mono ?_
                rintro e w6 ⟨rfl, hr6, hk6⟩
                have hk06 := HK5'.out.trans hk6 (fun _ h _ => h)
                have hc6 := HCW.out w6 hk06
                have hx6 := HXR.out w6 hk06
                have HR6 : Hid (Rds w6 r gr ss (j + 1) k) := Lib.hid (.inl ⟨hkf, hr6⟩)
                have HK6 := Lib.hid (HK5.out.trans hk6 (fun _ h _ => h))
                clear h1 h2 hr6 hk6 hk06 hkf
                go_wp2
                go_roundw
                case rel => exact ⟨j + 1, by omega, by go_num, HR6.out, HK6.out⟩
                case measure => simp [intOf]; omega
              · have := HFM.out
                omega
            · have hkf : k < F ss (j + 1) := by rw [← HFE.out]; omega
              have hke' : k < fe := by omega
              have hgone : Calls Try.prog 26 #[.pointer (some ⟨r, 0, none⟩)] w5 (Gone (.string .empty) r gr w5) := by
                rcases HRD.out with ⟨h1, h2⟩ | ⟨h1, l', h2⟩
                · exact Text_fell w5 r gr _ h2 (fun w1 h => text_bad h (HRC1.out h1 hkf))
                · exact Text_gone w5 r gr l' h2
              refine hgone.mono ?_
              clear hgone hke
              rintro e w6 ⟨rfl, l6, hr6, hk6⟩
              have hk06 := HK5'.out.trans hk6 (fun _ h _ => h)
              have hc6 := HCW.out w6 hk06
              have hx6 := HXR.out w6 hk06
              have HR6 : Hid (Rds w6 r gr ss (j + 1) k) := Lib.hid (.inr ⟨hkf, l6, hr6⟩)
              have HK6 := Lib.hid (HK5.out.trans hk6 (fun _ h _ => h))
              clear hr6 hk6 hk06 hkf
              go_wp2
              go_roundw
              case rel => exact ⟨j + 1, by omega, by go_num, HR6.out, HK6.out⟩
              case measure => simp [intOf]; omega
        · obtain ⟨l5, hr5⟩ : ∃ l', RdAt w5 r gr l' true := by
            have hjn : j = ss.length := by omega
            rcases HRD.out with ⟨h1, _⟩ | ⟨_, h⟩
            · have := HKF.out; rw [hjn] at h1; omega
            · exact h
          have HR5 := Lib.hid hr5
          clear hr5
          go_wp2_with fail
          refine (done_any w5 r gr l5 true HR5.out).mono ?_
          rintro e w' ⟨rfl, rfl⟩
          have hd : doneNum l5 true = 20 := rfl
          go_wp2_with fail
          refine (Num_gone w5 r gr l5 HR5.out).mono ?_
          rintro e w6 ⟨rfl, l6, hr6, hk6⟩
          have HR6 := Lib.hid hr6
          have HK6 := Lib.hid hk6
          clear hr6 hk6
          go_wp2_with fail
          refine (Int_gone w6 r gr l6 HR6.out).mono ?_
          rintro e w7 ⟨rfl, l7, hr7, hk7⟩
          have HR7 := Lib.hid hr7
          have HK7 := Lib.hid hk7
          clear hr7 hk7
          go_wp2_with fail
          refine (Bool_gone w7 r gr l7 HR7.out).mono ?_
          rintro e w8 ⟨rfl, l8, hr8, hk8⟩
          have HK8 := Lib.hid hk8
          clear hr8 hk8
          go_wp2_with fail
          go_ret
          refine ⟨rfl, ?_⟩
          have k58 : Keeps [r] wo w8 := ((HK5.out.trans HK6.out (fun _ h _ => h)).trans HK7.out (fun _ h _ => h)).trans HK8.out (fun _ h _ => h)
          have h1 := HKP.out.size; have h2 := HS3.out; have h3 := HRW.out
          exact ((HKP.out.trans HK4.out (by simp)).trans k58 (by intro i hi hl; simp at hi; omega)).below (B := w.heap.size) (by simp) (Nat.le_refl _)
end Go.Proofs.Ytpjnckdekoooeaa.codeCuts
