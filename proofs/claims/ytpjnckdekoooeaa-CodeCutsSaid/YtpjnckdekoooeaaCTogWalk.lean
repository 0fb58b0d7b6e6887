/- CodeTogether: the walk. -/
import Derived.Test.YtpjnckdekoooeaaCKnown
import Derived.Test.YtpjnckdekoooeaaRegion
namespace Go.Proofs.Ytpjnckdekoooeaa.codeTogether
open Go.RowKit
open Reg (Is Fact)

/-- Two writers, made behind w, apart from one another. -/
def Two (w wr : World) (p g q h : Nat) (Lv Lw : List UInt8) : Prop :=
  WrAt wr p g Lv ∧ WrAt wr q h Lw ∧ Keeps [] w wr ∧ (w.heap.size ≤ p ∧ w.heap.size ≤ g ∧ w.heap.size ≤ q ∧ w.heap.size ≤ h) ∧ (p ≠ q ∧ p ≠ h ∧ g ≠ q ∧ g ≠ h)
section
variable {w wr w' : World} {p g q h : Nat} {Lv Lw L' : List UInt8}
theorem Two.left (t : Two w wr p g q h Lv Lw) : WrAt wr p g Lv := t.1
theorem Two.right (t : Two w wr p g q h Lv Lw) : WrAt wr q h Lw := t.2.1
theorem Two.keep (t : Two w wr p g q h Lv Lw) : Keeps [] w wr := t.2.2.1
theorem Two.step (t : Two w wr p g q h Lv Lw) (s : ∃ h', WrAt w' q h' L' ∧ (h' = h ∨ wr.heap.size ≤ h') ∧ Keeps [q, h] wr w') : ∃ h', Two w w' p g q h' Lv L' := by
  obtain ⟨t1, t2, t3, t4, t5⟩ := t
  obtain ⟨h', s1, s2, s3⟩ := s
  have k1 := t1.lt
  have k3 := t3.size
  refine ⟨h', t1.keep s3 (by simp; omega) (by simp; omega), s1, t3.trans s3 (by intro i hi hl; simp at hi; omega), by omega, by omega⟩
theorem Two.stepl (t : Two w wr p g q h Lv Lw) (s : ∃ g', WrAt w' p g' L' ∧ (g' = g ∨ wr.heap.size ≤ g') ∧ Keeps [p, g] wr w') : ∃ g', Two w w' p g' q h L' Lw := by
  obtain ⟨t1, t2, t3, t4, t5⟩ := t
  obtain ⟨g', s1, s2, s3⟩ := s
  have k1 := t2.lt
  have k3 := t3.size
  refine ⟨g', s1, t2.keep s3 (by simp; omega) (by simp; omega), t3.trans s3 (by intro i hi hl; simp at hi; omega), by omega, by omega⟩
theorem pick {A : Option Addr} {vs : List Value} {b : Nat} (hr : CellsIn w b A vs) (hk : Keeps [] w wr) (hp : w.heap.size ≤ p) (hg : w.heap.size ≤ g) : ∃ b', CellsIn wr b' A vs ∧ b' ≠ p ∧ b' ≠ g := by
  rcases hr with h | ⟨off, hA, hc⟩
  · exact ⟨p + g + 1, .inl h, by omega, by omega⟩
  · by_cases hl : 0 < vs.length
    · have := World.block_lt_of_cell? w _ (hc 0 hl)
      have hb : b < w.heap.size := this
      exact ⟨b, (show CellsIn w b A vs from .inr ⟨off, hA, hc⟩).keep hk (by simp), by omega, by omega⟩
    · exact ⟨p + g + 1, .inl (List.eq_nil_of_length_eq_zero (by omega)), by omega, by omega⟩
end

attribute [local go_sem] Reg.wantedV Reg.gives_value Reg.gives_skip Reg.gives_enter
def CT (wr : World) (q h : Nat) (L' : List UInt8) (L : Nat → Bool) (w : World) : Prop :=
  Keeps [q, h] wr w ∧ (L 8 = false → Keeps [] wr w) ∧ (L 8 = true → ∃ h', WrAt w q h' L' ∧ (h' = h ∨ wr.heap.size ≤ h') ∧ Keeps [q, h] wr w)
def GT (q h : Nat) (w w' : World) : Prop := Keeps [q, h] w w'
theorem CT.lay {wr w w' : World} {q h : Nat} {L' : List UInt8} {L : Nat → Bool} {i : Nat} (c : CT wr q h L' L w) (hi : i ≠ 8) (hk : Keeps [] w w') : CT wr q h L' (Reg.lay L i) w' := by
  have e : Reg.lay L i 8 = L 8 := by simp [Reg.lay]; intro h; omega
  refine ⟨c.1.trans hk (by simp), fun hl => (c.2.1 (by rw [← e]; exact hl)).trans hk (by simp), fun hl => ?_⟩
  obtain ⟨h', q1, q2, q3⟩ := c.2.2 (by rw [← e]; exact hl)
  exact ⟨h', q1.keep hk (by simp) (by simp), q2, q3.trans hk (by simp)⟩
theorem CT.done {wr w w' : World} {q h h' : Nat} {L' : List UInt8} {L : Nat → Bool} (hk : Keeps [] wr w) (q1 : WrAt w' q h' L') (q2 : h' = h ∨ w.heap.size ≤ h') (q3 : Keeps [q, h] w w') : CT wr q h L' (Reg.lay L 8) w' := by
  have k : Keeps [q, h] wr w' := (hk.mono (by simp)).trans q3 (fun _ h _ => h)
  have := hk.size
  exact ⟨k, fun hl => by simp [Reg.lay] at hl, fun _ => ⟨h', q1, by omega, k⟩⟩
theorem GT.of {w w' : World} {q h : Nat} (hk : Keeps [] w w') : GT q h w w' := hk.mono (by simp)
theorem GT.same (q h : Nat) (w : World) : GT q h w w := Keeps.refl _ _
/-- A new row of one cell. -/
def OneF (q h : Nat) (v0 : Value) : Fact := fun v w => ∃ x, v = .slice (some ⟨x, 0, none⟩) 1 1 ∧ w.cell? ⟨x, 0, none⟩ = some v0 ∧ x ≠ q ∧ x ≠ h
theorem OneF.last {q h : Nat} {v0 : Value} : ∀ v w w', OneF q h v0 v w → GT q h w w' → OneF q h v0 v w' :=
  fun _ _ _ ⟨x, h1, h2, h3, h4⟩ hg => ⟨x, h1, Keeps.cell_some hg h2 (by simp; exact ⟨h3, h4⟩), h3, h4⟩
theorem OneF.new {wr w : World} {q h : Nat} {v0 : Value} {t : TypeId} (hl : q < wr.heap.size ∧ h < wr.heap.size) (hs : wr.heap.size ≤ w.heap.size) : OneF q h v0 (.slice (some ⟨w.heap.size, 0, none⟩) 1 1) (w.alloc (.cells #[v0] t)) :=
  ⟨_, rfl, cell_of_one (heap_alloc_new w _), by omega, by omega⟩
theorem Is.lastT {q h : Nat} {u : Value} : ∀ v w w', Is u v w → GT q h w w' → Is u v w' := fun _ _ _ h _ => h
/-- A copy of l. -/
def CopyB (l : List UInt8) : Fact := fun v w => ∃ A c b, v = .slice A l.length c ∧ BytesIn w b A l
theorem CopyB.last {B : Nat} {l : List UInt8} : ∀ v w w', B ≤ w.heap.size → CopyB l v w → Below w.heap.size w w' → CopyB l v w' :=
  fun _ _ _ _ ⟨A, c, b, h1, h2⟩ hb => ⟨A, c, b, h1, h2.keep (Keeps.of_below hb []) (by simp)⟩
theorem Is.lastB {B : Nat} {u : Value} : ∀ v w w', B ≤ w.heap.size → Is u v w → Below w.heap.size w w' → Is u v w' := fun _ _ _ _ h _ => h

theorem flat_texts_len : ∀ (ss : List ByteArray), (∀ s ∈ ss, s.size ≤ 100) → (ss.flatMap encT).length ≤ 110 * ss.length
  | [], _ => by simp
  | s :: r, h => by
    have h1 := flat_texts_len r (fun m hm => h m (by simp [hm]))
    have h2 := h s (by simp)
    have h3 := M.enc_len64 (n := s.size) (by omega)
    have h4 : (encT s).length = (M.enc s.size).length + s.size := by
      unfold encT M.encText
      rw [List.length_append, Array.length_toList]
      rfl
    simp only [List.flatMap_cons, List.length_append, List.length_cons]
    omega
theorem encT_len {s : ByteArray} (h : s.size ≤ 100) : (encT s).length ≤ 110 := by
  have := flat_texts_len [s] (by simpa using h)
  simpa using this

set_option maxHeartbeats 4000000 in
set_option maxRecDepth 100000 in
theorem walk_light (w : World) (hba hbb hbc hbd : Nat) (Aa Ab Ac Ad : Option Addr) (capa capb capc capd : Nat) (ns : List Nat) (zs : List Int) (ss : List ByteArray) (bs : List Bool)
    (HRa : Hid (CellsIn w hba Aa (nums .u64 ns))) (HRb : Hid (CellsIn w hbb Ab (ints zs))) (HRc : Hid (CellsIn w hbc Ac (texts ss))) (HRd : Hid (CellsIn w hbd Ad (bools bs)))
    (HN : Hid (∀ n ∈ ns, n < 18446744073709551616)) (HZ : Hid (∀ z ∈ zs, Wide z)) (HS : Hid (∀ s ∈ ss, s.size ≤ maxLen)) (ln : ns.length ≤ 20) (lz : zs.length ≤ 20) (ls : ss.length ≤ 20) (lb : bs.length ≤ 20) :
    Calls Try.prog 8 #[.slice Aa ns.length capa, .slice Ab zs.length capb, .slice Ac ss.length capc, .slice Ad bs.length capd] w fun e w' => e = .returned (.bool true) ∧ Below w.heap.size w w' := by
  go_enter Try.func8, Try.ntmps8
  go_wp2_with fail
  refine (known_any w).mono ?_
  rintro e w0 ⟨rfl, hk0⟩
  have HK0 := Lib.hid hk0
  clear hk0
  go_wp2_with fail
  refine (newWriter_any w0).mono ?_
  rintro e w1 ⟨p, rfl, hp, hw1, hk1⟩
  have HP := Lib.hid hp
  have HW1 := Lib.hid hw1
  have HK1 := Lib.hid hk1
  clear hp hw1 hk1
  go_wp2_with fail
  refine (newWriter_any w1).mono ?_
  rintro e w2 ⟨q, rfl, hq, hv2, hk2⟩
  have HT0 : Hid (Two w w2 p p q q [] []) := Lib.hid (by
    have h1 := HW1.out.lt; have h2 := HP.out; have h3 := HK0.out.size
    exact ⟨HW1.out.keep hk2 (by simp) (by simp), hv2, (HK0.out.trans HK1.out (by simp)).trans hk2 (by simp), by omega, by omega⟩)
  clear hq hv2 hk2
  go_wp2_with fail
  obtain ⟨ba, hra, hpa, hga⟩ := pick HRa.out HT0.out.keep HT0.out.2.2.2.1.1 HT0.out.2.2.2.1.1
  refine (num_any w2 p p ba [] Aa ns capa HT0.out.left hra hpa hga HN.out (by simp; omega)).mono ?_
  rintro e w3 ⟨rfl, hs⟩
  obtain ⟨g1, ht1⟩ := HT0.out.stepl hs
  have HT1 := Lib.hid ht1
  clear hra hpa hga hs ht1
  go_wp2_with fail
  have HL1 := Lib.hid (flat_len ns HN.out)
  obtain ⟨ba, hra, hpa, hga⟩ := pick HRb.out HT1.out.keep HT1.out.2.2.2.1.1 HT1.out.2.2.2.1.2.1
  refine (int_any w3 p g1 ba _ Ab zs capb HT1.out.left hra hpa hga HZ.out (by have := HL1.out; simp only [List.length_append, List.length_nil]; omega)).mono ?_
  rintro e w4 ⟨rfl, hs⟩
  obtain ⟨g2, ht2⟩ := HT1.out.stepl hs
  have HT2 := Lib.hid ht2
  have HL2 := Lib.hid (flat_ints_len zs HZ.out)
  clear hra hpa hga hs ht2
  go_wp2_with fail
  go_loop [11] (fun i => ∃ k : Nat, k ≤ ss.length ∧ i = .int .i64 k ∧ ∀ s ∈ ss.take k, s.size ≤ 100) (fun i => ss.length - (intOf i).toNat)
  case atStart => exact ⟨0, Nat.zero_le _, rfl, by simp⟩
  case round =>
    obtain ⟨k, hk, rfl, hall⟩ := hrel
    have HALL := Lib.hid hall
    clear hall
    by_cases hlt : k < ss.length
    · rcases HRc.out with h0 | ⟨off, rfl, hcell⟩
      · have : ss = [] := by simpa [texts] using h0
        subst this; simp at hlt
      · have hc := hcell k (by simpa [texts] using hlt)
        rw [texts_get hlt] at hc
        have hsz := HS.out _ (List.getElem_mem hlt)
        have HTK := Lib.hid (List.take_succ_eq_append_getElem hlt)
        obtain ⟨n, hn⟩ : ∃ n, n = ss[k] := ⟨_, rfl⟩
        rw [← hn] at hc hsz HTK
        have hcw := HT2.out.keep.cell_some hc (by simp)
        unfold maxLen at hsz
        clear hc hcell hn
        by_cases hlong : n.size ≤ 100
        · go_wp2
          go_round
          case rel => exact ⟨k + 1, by omega, by go_num, by rw [HTK.out]; intro s hs; rcases List.mem_append.1 hs with h | h
                                                            · exact HALL.out s h
                                                            · obtain rfl : s = n := by simpa using h
                                                              exact hlong⟩
          case measure => simp [intOf]; omega
        · have hlong' : 100 < n.size := by omega
          clear hlong
          go_wp2
          go_ret
          exact ⟨rfl, HT2.out.keep.below (by simp) (Nat.le_refl _)⟩
    · have HSM : Hid (∀ s ∈ ss, s.size ≤ 100) := Lib.hid (by have := HALL.out; rwa [List.take_of_length_le (by omega)] at this)
      have HL3 := Lib.hid (flat_texts_len ss HSM.out)
      have hl3 : ([] ++ ns.flatMap M.enc ++ zs.flatMap encInt).length ≤ 400 := by
        have h1 := HL1.out; have h2 := HL2.out
        simp only [List.length_append, List.length_nil]; omega
      have HL3' := Lib.hid hl3
      clear hl3
      go_wp2_with fail
      obtain ⟨ba, hra, hpa, hga⟩ := pick HRc.out HT2.out.keep HT2.out.2.2.2.1.1 HT2.out.2.2.2.1.2.1
      refine (text_any w4 p g2 ba _ Ac ss capc HT2.out.left hra hpa hga (by omega) (by have := HL3.out; have := HL3'.out; omega)).mono ?_
      rintro e w5a ⟨rfl, hs⟩
      obtain ⟨g3, ht3⟩ := HT2.out.stepl hs
      have HT3 := Lib.hid ht3
      clear hra hpa hga hs ht3
      go_wp2_with fail
      obtain ⟨ba, hra, hpa, hga⟩ := pick HRd.out HT3.out.keep HT3.out.2.2.2.1.1 HT3.out.2.2.2.1.2.1
      refine (bool_any w5a p g3 ba _ Ad bs capd HT3.out.left hra hpa hga (by have := HL3.out; have := HL3'.out; simp only [List.length_append] at this ⊢; omega)).mono ?_
      rintro e w5 ⟨rfl, hs⟩
      obtain ⟨g, ht4⟩ := HT3.out.stepl hs
      obtain ⟨Lv, hLv⟩ : ∃ Lv, Lv = [] ++ ns.flatMap M.enc ++ zs.flatMap encInt ++ ss.flatMap encT ++ bs.flatMap M.encBool := ⟨_, rfl⟩
      rw [← hLv] at ht4
      have HTa := Lib.hid ht4
      have HLV : Hid (Lv.length ≤ 140737488355328) := Lib.hid (by
        have h1 := HL3.out; have h2 := HL3'.out; have h3 := flat_bools_len bs
        rw [hLv]
        simp only [List.length_append] at h2 ⊢
        omega)
      have HLVE := Lib.hid hLv
      have HLENa : Hid (∀ k (h : k < ns.length), ([] ++ (ns.take k).flatMap M.enc).length + 200 ≤ 100000 ∧ ns[k] < 18446744073709551616) := Lib.hid (fun k h => by
        have h1 := flat_take_len M.enc ns k; have h2 := HL1.out
        refine ⟨?_, HN.out _ (List.getElem_mem h)⟩
        rw [List.nil_append]; omega)
      have HLENb : Hid (∀ k (h : k < zs.length), ([] ++ ns.flatMap M.enc ++ (zs.take k).flatMap encInt).length + 200 ≤ 100000 ∧ Wide zs[k]) := Lib.hid (fun k h => by
        have h1 := flat_take_len encInt zs k; have h2 := HL1.out; have h3 := HL2.out
        refine ⟨?_, HZ.out _ (List.getElem_mem h)⟩
        simp only [List.length_append, List.length_nil]; omega)
      have HLENc : Hid (∀ k (h : k < ss.length), ([] ++ ns.flatMap M.enc ++ zs.flatMap encInt ++ (ss.take k).flatMap encT).length + 200 ≤ 100000 ∧ ss[k].size ≤ 100) := Lib.hid (fun k h => by
        have h1 := flat_take_len encT ss k; have h2 := HL3'.out; have h3 := HL3.out
        refine ⟨?_, HSM.out _ (List.getElem_mem h)⟩
        rw [List.length_append]; omega)
      have HLENd : Hid (∀ k (h : k < bs.length), ([] ++ ns.flatMap M.enc ++ zs.flatMap encInt ++ ss.flatMap encT ++ (bs.take k).flatMap M.encBool).length + 200 ≤ 100000 ∧ bs[k] = bs[k]) := Lib.hid (fun k h => by
        have h1 := flat_take_len M.encBool bs k; have h2 := HL3'.out; have h3 := HL3.out; have h4 := flat_bools_len bs
        refine ⟨?_, rfl⟩
        rw [List.length_append, List.length_append]; omega)
      clear hra hpa hga hs ht4 hLv
      go_wp2_with fail

      obtain ⟨woa, rfl⟩ : ∃ wo : World, wo = w5 := ⟨_, rfl⟩
      go_loopw [12] (fun i wr => ∃ k h : Nat, k ≤ ns.length ∧ i = .int .i64 k ∧ Two w wr p g q h Lv (([] : List UInt8) ++ (ns.take k).flatMap M.enc)) (fun i _ => ns.length - (intOf i).toNat)
      case atStart => exact ⟨0, _, Nat.zero_le _, rfl, by simpa using HTa.out⟩
      case round =>
        obtain ⟨k, h, hk, rfl, ht⟩ := hrel
        have HT := Lib.hid ht
        clear ht
        by_cases hlt : k < ns.length
        · rcases HRa.out with h0 | ⟨off, rfl, hcell⟩
          · have : ns = [] := by simpa [nums] using h0
            subst this; simp at hlt
          · have hc := hcell k (by simpa [nums] using hlt)
            rw [nums_get hlt] at hc
            have HE := Lib.hid (flat_next M.enc (([] : List UInt8)) hlt)
            have HLEN := Lib.hid (HLENa.out k hlt)
            have hbl : hba < w.heap.size := World.block_lt_of_cell? w _ hc
            have HNOT : Hid (hba ∉ [q, h]) := Lib.hid (by have h1 := HT.out.2.2.2.1; simp; omega)
            obtain ⟨n, hn⟩ : ∃ n, n = ns[k] := ⟨_, rfl⟩
            rw [← hn] at hc HE
            try rw [← hn] at HLEN
            have hcw := HT.out.keep.cell_some hc (by simp)
            have HN := Lib.hid hn
            clear hc hcell hn hbl
            go_wp2_with fail
            refine Reg.wp_region_state (A := ?Afa) (CT wr q h (([] : List UInt8) ++ (ns.take k).flatMap M.enc ++ M.enc n)) (GT q h)
              [Is (.pointer (some ⟨q, 0, none⟩)), Is (.pointer (some ⟨q, 0, none⟩)), Is (.pointer (some ⟨q, 0, none⟩)), Is (.slice (some ⟨hba, off, none⟩) ns.length capa), Is (.int .i64 (k : Int)), Is (.pointer (some ⟨hba, off + k, none⟩)), Is (.int .u64 (n : Int)), OneF q h (.int .u64 (n : Int)), Is (.tuple #[])]
              (by kernel_rfl) (by kernel_rfl) rfl ?hAa ?hCa ?hoa ?hlasta ?henda
            case hAa => intro vs; simp only [Reg.fill, if_true, Nat.zero_add, Nat.reduceAdd, Act.put, List.setIfInBounds_toArray, List.set_cons_succ, List.set_cons_zero]; exact rfl
            case hCa => exact ⟨(Keeps.refl _ _).drew, fun _ => (Keeps.refl _ _).drew, fun h => by simp at h⟩
            case hlasta => repeat (first | exact trivial | refine ⟨Is.lastT, ?_⟩ | refine ⟨OneF.last, ?_⟩)
            case hoa =>
              repeat' apply And.intro
              all_goals
                first
                  | exact trivial
                  | (intro L vs w' hC hL hd K hK
                     try simp only [Reg.Deps, Reg.at_, List.getD_cons_zero, List.getD_cons_succ, Region.binds, true_implies, Is, and_true] at hd
                     have hcw' := hC.1.cell_some hcw HNOT.out
                     go_simp
                     first
                       | exact hK _ _ (hC.lay (by decide) (Keeps.refl _ _)) (GT.same _ _ _) rfl
                       | skip)
              · exact hK _ _ (hC.lay (by decide) ((Keeps.refl _ _).alloc _)) (GT.of ((Keeps.refl _ _).alloc _)) (OneF.new HT.out.right.lt (hC.1.size))
              · obtain ⟨-, x, hx, hxb, hx1, hx2⟩ := hd
                rw [hx]
                have hk8 := hC.2.1 hL
                refine (num_any w' q h x (([] : List UInt8) ++ (ns.take k).flatMap M.enc) (some ⟨x, 0, none⟩) [n] 1 (HT.out.right.keep hk8 (by simp) (by simp)) (.inr ⟨0, rfl, fun j hj => ?_⟩) hx1 hx2 (by simpa using HLEN.out.2) (by have := HLEN.out.1; simp only [List.length_cons, List.length_nil]; omega)).mono ?_
                · obtain rfl : j = 0 := by simpa [nums] using hj
                  simpa [nums] using hxb
                · rintro e w'' ⟨rfl, h', q1, q2, q3⟩
                  exact ⟨_, rfl, hK _ _ (CT.done hk8 (by simpa using q1) q2 q3) q3 rfl⟩
            case henda =>
              intro vs w' hC hall
              have HQ := Lib.hid (hC.2.2 rfl)
              clear hall hC
              go_wp2
              go_roundw
              case rel =>
                have hq' := HQ.out
                rw [HE.out] at hq'
                obtain ⟨h', hq⟩ := HT.out.step hq'
                exact ⟨k + 1, h', by omega, by go_num, hq⟩
              case measure => simp [intOf]; omega
        · have hke : k = ns.length := by omega
          have HTb := Lib.hid (show Two w wr p g q h Lv (([] : List UInt8) ++ ns.flatMap M.enc) by have := HT.out; rwa [List.take_of_length_le (by omega)] at this)
          have HKE := Lib.hid hke
          clear hke HT
          go_wp2_with fail

          obtain ⟨wob, rfl⟩ : ∃ wo : World, wo = wr := ⟨_, rfl⟩
          go_loopw [13] (fun i wr => ∃ k h : Nat, k ≤ zs.length ∧ i = .int .i64 k ∧ Two w wr p g q h Lv (([] : List UInt8) ++ ns.flatMap M.enc ++ (zs.take k).flatMap encInt)) (fun i _ => zs.length - (intOf i).toNat)
          case atStart => exact ⟨0, _, Nat.zero_le _, rfl, by simpa using HTb.out⟩
          case round =>
            obtain ⟨k, h, hk, rfl, ht⟩ := hrel
            have HT := Lib.hid ht
            clear ht
            by_cases hlt : k < zs.length
            · rcases HRb.out with h0 | ⟨off, rfl, hcell⟩
              · have : zs = [] := by simpa [ints] using h0
                subst this; simp at hlt
              · have hc := hcell k (by simpa [ints] using hlt)
                rw [ints_get hlt] at hc
                have HE := Lib.hid (flat_next encInt (([] : List UInt8) ++ ns.flatMap M.enc) hlt)
                have HLEN := Lib.hid (HLENb.out k hlt)
                have hbl : hbb < w.heap.size := World.block_lt_of_cell? w _ hc
                have HNOT : Hid (hbb ∉ [q, h]) := Lib.hid (by have h1 := HT.out.2.2.2.1; simp; omega)
                obtain ⟨n, hn⟩ : ∃ n, n = zs[k] := ⟨_, rfl⟩
                rw [← hn] at hc HE
                try rw [← hn] at HLEN
                have hcw := HT.out.keep.cell_some hc (by simp)
                have HN := Lib.hid hn
                clear hc hcell hn hbl
                go_wp2_with fail
                refine Reg.wp_region_state (A := ?Afb) (CT wr q h (([] : List UInt8) ++ ns.flatMap M.enc ++ (zs.take k).flatMap encInt ++ encInt n)) (GT q h)
                  [Is (.pointer (some ⟨q, 0, none⟩)), Is (.pointer (some ⟨q, 0, none⟩)), Is (.pointer (some ⟨q, 0, none⟩)), Is (.slice (some ⟨hbb, off, none⟩) zs.length capb), Is (.int .i64 (k : Int)), Is (.pointer (some ⟨hbb, off + k, none⟩)), Is (.int .i64 n), OneF q h (.int .i64 n), Is (.tuple #[])]
                  (by kernel_rfl) (by kernel_rfl) rfl ?hAb ?hCb ?hob ?hlastb ?hendb
                case hAb => intro vs; simp only [Reg.fill, if_true, Nat.zero_add, Nat.reduceAdd, Act.put, List.setIfInBounds_toArray, List.set_cons_succ, List.set_cons_zero]; exact rfl
                case hCb => exact ⟨(Keeps.refl _ _).drew, fun _ => (Keeps.refl _ _).drew, fun h => by simp at h⟩
                case hlastb => repeat (first | exact trivial | refine ⟨Is.lastT, ?_⟩ | refine ⟨OneF.last, ?_⟩)
                case hob =>
                  repeat' apply And.intro
                  all_goals
                    first
                      | exact trivial
                      | (intro L vs w' hC hL hd K hK
                         try simp only [Reg.Deps, Reg.at_, List.getD_cons_zero, List.getD_cons_succ, Region.binds, true_implies, Is, and_true] at hd
                         have hcw' := hC.1.cell_some hcw HNOT.out
                         go_simp
                         first
                           | exact hK _ _ (hC.lay (by decide) (Keeps.refl _ _)) (GT.same _ _ _) rfl
                           | skip)
                  · exact hK _ _ (hC.lay (by decide) ((Keeps.refl _ _).alloc _)) (GT.of ((Keeps.refl _ _).alloc _)) (OneF.new HT.out.right.lt (hC.1.size))
                  · obtain ⟨-, x, hx, hxb, hx1, hx2⟩ := hd
                    rw [hx]
                    have hk8 := hC.2.1 hL
                    refine (int_any w' q h x (([] : List UInt8) ++ ns.flatMap M.enc ++ (zs.take k).flatMap encInt) (some ⟨x, 0, none⟩) [n] 1 (HT.out.right.keep hk8 (by simp) (by simp)) (.inr ⟨0, rfl, fun j hj => ?_⟩) hx1 hx2 (by simpa using HLEN.out.2) (by have := HLEN.out.1; simp only [List.length_cons, List.length_nil]; omega)).mono ?_
                    · obtain rfl : j = 0 := by simpa [ints] using hj
                      simpa [ints] using hxb
                    · rintro e w'' ⟨rfl, h', q1, q2, q3⟩
                      exact ⟨_, rfl, hK _ _ (CT.done hk8 (by simpa using q1) q2 q3) q3 rfl⟩
                case hendb =>
                  intro vs w' hC hall
                  have HQ := Lib.hid (hC.2.2 rfl)
                  clear hall hC
                  go_wp2
                  go_roundw
                  case rel =>
                    have hq' := HQ.out
                    rw [HE.out] at hq'
                    obtain ⟨h', hq⟩ := HT.out.step hq'
                    exact ⟨k + 1, h', by omega, by go_num, hq⟩
                  case measure => simp [intOf]; omega
            · have hke : k = zs.length := by omega
              have HTc := Lib.hid (show Two w wr p g q h Lv (([] : List UInt8) ++ ns.flatMap M.enc ++ zs.flatMap encInt) by have := HT.out; rwa [List.take_of_length_le (by omega)] at this)
              have HKE := Lib.hid hke
              clear hke HT
              go_wp2_with fail

              obtain ⟨woc, rfl⟩ : ∃ wo : World, wo = wr := ⟨_, rfl⟩
              go_loopw [14] (fun i wr => ∃ k h : Nat, k ≤ ss.length ∧ i = .int .i64 k ∧ Two w wr p g q h Lv (([] : List UInt8) ++ ns.flatMap M.enc ++ zs.flatMap encInt ++ (ss.take k).flatMap encT)) (fun i _ => ss.length - (intOf i).toNat)
              case atStart => exact ⟨0, _, Nat.zero_le _, rfl, by simpa using HTc.out⟩
              case round =>
                obtain ⟨k, h, hk, rfl, ht⟩ := hrel
                have HT := Lib.hid ht
                clear ht
                by_cases hlt : k < ss.length
                · rcases HRc.out with h0 | ⟨off, rfl, hcell⟩
                  · have : ss = [] := by simpa [texts] using h0
                    subst this; simp at hlt
                  · have hc := hcell k (by simpa [texts] using hlt)
                    rw [texts_get hlt] at hc
                    have HE := Lib.hid (flat_next encT (([] : List UInt8) ++ ns.flatMap M.enc ++ zs.flatMap encInt) hlt)
                    have HLEN := Lib.hid (HLENc.out k hlt)
                    have hbl : hbc < w.heap.size := World.block_lt_of_cell? w _ hc
                    have HNOT : Hid (hbc ∉ [q, h]) := Lib.hid (by have h1 := HT.out.2.2.2.1; simp; omega)
                    obtain ⟨n, hn⟩ : ∃ n, n = ss[k] := ⟨_, rfl⟩
                    rw [← hn] at hc HE
                    try rw [← hn] at HLEN
                    have hcw := HT.out.keep.cell_some hc (by simp)
                    have HN := Lib.hid hn
                    clear hc hcell hn hbl
                    go_wp2_with fail
                    refine Reg.wp_region_state (A := ?Afc) (CT wr q h (([] : List UInt8) ++ ns.flatMap M.enc ++ zs.flatMap encInt ++ (ss.take k).flatMap encT ++ encT n)) (GT q h)
                      [Is (.pointer (some ⟨q, 0, none⟩)), Is (.pointer (some ⟨q, 0, none⟩)), Is (.pointer (some ⟨q, 0, none⟩)), Is (.slice (some ⟨hbc, off, none⟩) ss.length capc), Is (.int .i64 (k : Int)), Is (.pointer (some ⟨hbc, off + k, none⟩)), Is (.string n), OneF q h (.string n), Is (.tuple #[])]
                      (by kernel_rfl) (by kernel_rfl) rfl ?hAc ?hCc ?hoc ?hlastc ?hendc
                    case hAc => intro vs; simp only [Reg.fill, if_true, Nat.zero_add, Nat.reduceAdd, Act.put, List.setIfInBounds_toArray, List.set_cons_succ, List.set_cons_zero]; exact rfl
                    case hCc => exact ⟨(Keeps.refl _ _).drew, fun _ => (Keeps.refl _ _).drew, fun h => by simp at h⟩
                    case hlastc => repeat (first | exact trivial | refine ⟨Is.lastT, ?_⟩ | refine ⟨OneF.last, ?_⟩)
                    case hoc =>
                      repeat' apply And.intro
                      all_goals
                        first
                          | exact trivial
                          | (intro L vs w' hC hL hd K hK
                             try simp only [Reg.Deps, Reg.at_, List.getD_cons_zero, List.getD_cons_succ, Region.binds, true_implies, Is, and_true] at hd
                             have hcw' := hC.1.cell_some hcw HNOT.out
                             go_simp
                             first
                               | exact hK _ _ (hC.lay (by decide) (Keeps.refl _ _)) (GT.same _ _ _) rfl
                               | skip)
                      · exact hK _ _ (hC.lay (by decide) ((Keeps.refl _ _).alloc _)) (GT.of ((Keeps.refl _ _).alloc _)) (OneF.new HT.out.right.lt (hC.1.size))
                      · obtain ⟨-, x, hx, hxb, hx1, hx2⟩ := hd
                        rw [hx]
                        have hk8 := hC.2.1 hL
                        refine (text_any w' q h x (([] : List UInt8) ++ ns.flatMap M.enc ++ zs.flatMap encInt ++ (ss.take k).flatMap encT) (some ⟨x, 0, none⟩) [n] 1 (HT.out.right.keep hk8 (by simp) (by simp)) (.inr ⟨0, rfl, fun j hj => ?_⟩) hx1 hx2 (by simp) (by have := HLEN.out.1; have := encT_len HLEN.out.2; simp only [List.flatMap_cons, List.flatMap_nil, List.append_nil]; omega)).mono ?_
                        · obtain rfl : j = 0 := by simpa [texts] using hj
                          simpa [texts] using hxb
                        · rintro e w'' ⟨rfl, h', q1, q2, q3⟩
                          exact ⟨_, rfl, hK _ _ (CT.done hk8 (by simpa using q1) q2 q3) q3 rfl⟩
                    case hendc =>
                      intro vs w' hC hall
                      have HQ := Lib.hid (hC.2.2 rfl)
                      clear hall hC
                      go_wp2
                      go_roundw
                      case rel =>
                        have hq' := HQ.out
                        rw [HE.out] at hq'
                        obtain ⟨h', hq⟩ := HT.out.step hq'
                        exact ⟨k + 1, h', by omega, by go_num, hq⟩
                      case measure => simp [intOf]; omega
                · have hke : k = ss.length := by omega
                  have HTd := Lib.hid (show Two w wr p g q h Lv (([] : List UInt8) ++ ns.flatMap M.enc ++ zs.flatMap encInt ++ ss.flatMap encT) by have := HT.out; rwa [List.take_of_length_le (by omega)] at this)
                  have HKE := Lib.hid hke
                  clear hke HT
                  go_wp2_with fail

                  obtain ⟨wod, rfl⟩ : ∃ wo : World, wo = wr := ⟨_, rfl⟩
                  go_loopw [15] (fun i wr => ∃ k h : Nat, k ≤ bs.length ∧ i = .int .i64 k ∧ Two w wr p g q h Lv (([] : List UInt8) ++ ns.flatMap M.enc ++ zs.flatMap encInt ++ ss.flatMap encT ++ (bs.take k).flatMap M.encBool)) (fun i _ => bs.length - (intOf i).toNat)
                  case atStart => exact ⟨0, _, Nat.zero_le _, rfl, by simpa using HTd.out⟩
                  case round =>
                    obtain ⟨k, h, hk, rfl, ht⟩ := hrel
                    have HT := Lib.hid ht
                    clear ht
                    by_cases hlt : k < bs.length
                    · rcases HRd.out with h0 | ⟨off, rfl, hcell⟩
                      · have : bs = [] := by simpa [bools] using h0
                        subst this; simp at hlt
                      · have hc := hcell k (by simpa [bools] using hlt)
                        rw [bools_get hlt] at hc
                        have HE := Lib.hid (flat_next M.encBool (([] : List UInt8) ++ ns.flatMap M.enc ++ zs.flatMap encInt ++ ss.flatMap encT) hlt)
                        have HLEN := Lib.hid (HLENd.out k hlt)
                        have hbl : hbd < w.heap.size := World.block_lt_of_cell? w _ hc
                        have HNOT : Hid (hbd ∉ [q, h]) := Lib.hid (by have h1 := HT.out.2.2.2.1; simp; omega)
                        obtain ⟨n, hn⟩ : ∃ n, n = bs[k] := ⟨_, rfl⟩
                        rw [← hn] at hc HE
                        try rw [← hn] at HLEN
                        have hcw := HT.out.keep.cell_some hc (by simp)
                        have HN := Lib.hid hn
                        clear hc hcell hn hbl
                        go_wp2_with fail
                        refine Reg.wp_region_state (A := ?Afd) (CT wr q h (([] : List UInt8) ++ ns.flatMap M.enc ++ zs.flatMap encInt ++ ss.flatMap encT ++ (bs.take k).flatMap M.encBool ++ M.encBool n)) (GT q h)
                          [Is (.pointer (some ⟨q, 0, none⟩)), Is (.pointer (some ⟨q, 0, none⟩)), Is (.pointer (some ⟨q, 0, none⟩)), Is (.slice (some ⟨hbd, off, none⟩) bs.length capd), Is (.int .i64 (k : Int)), Is (.pointer (some ⟨hbd, off + k, none⟩)), Is (.bool n), OneF q h (.bool n), Is (.tuple #[])]
                          (by kernel_rfl) (by kernel_rfl) rfl ?hAd ?hCd ?hod ?hlastd ?hendd
                        case hAd => intro vs; simp only [Reg.fill, if_true, Nat.zero_add, Nat.reduceAdd, Act.put, List.setIfInBounds_toArray, List.set_cons_succ, List.set_cons_zero]; exact rfl
                        case hCd => exact ⟨(Keeps.refl _ _).drew, fun _ => (Keeps.refl _ _).drew, fun h => by simp at h⟩
                        case hlastd => repeat (first | exact trivial | refine ⟨Is.lastT, ?_⟩ | refine ⟨OneF.last, ?_⟩)
                        case hod =>
                          repeat' apply And.intro
                          all_goals
                            first
                              | exact trivial
                              | (intro L vs w' hC hL hd K hK
                                 try simp only [Reg.Deps, Reg.at_, List.getD_cons_zero, List.getD_cons_succ, Region.binds, true_implies, Is, and_true] at hd
                                 have hcw' := hC.1.cell_some hcw HNOT.out
                                 go_simp
                                 first
                                   | exact hK _ _ (hC.lay (by decide) (Keeps.refl _ _)) (GT.same _ _ _) rfl
                                   | skip)
                          · exact hK _ _ (hC.lay (by decide) ((Keeps.refl _ _).alloc _)) (GT.of ((Keeps.refl _ _).alloc _)) (OneF.new HT.out.right.lt (hC.1.size))
                          · obtain ⟨-, x, hx, hxb, hx1, hx2⟩ := hd
                            rw [hx]
                            have hk8 := hC.2.1 hL
                            refine (bool_any w' q h x (([] : List UInt8) ++ ns.flatMap M.enc ++ zs.flatMap encInt ++ ss.flatMap encT ++ (bs.take k).flatMap M.encBool) (some ⟨x, 0, none⟩) [n] 1 (HT.out.right.keep hk8 (by simp) (by simp)) (.inr ⟨0, rfl, fun j hj => ?_⟩) hx1 hx2 (by have := HLEN.out.1; simp only [List.length_cons, List.length_nil]; omega)).mono ?_
                            · obtain rfl : j = 0 := by simpa [bools] using hj
                              simpa [bools] using hxb
                            · rintro e w'' ⟨rfl, h', q1, q2, q3⟩
                              exact ⟨_, rfl, hK _ _ (CT.done hk8 (by simpa using q1) q2 q3) q3 rfl⟩
                        case hendd =>
                          intro vs w' hC hall
                          have HQ := Lib.hid (hC.2.2 rfl)
                          clear hall hC
                          go_wp2
                          go_roundw
                          case rel =>
                            have hq' := HQ.out
                            rw [HE.out] at hq'
                            obtain ⟨h', hq⟩ := HT.out.step hq'
                            exact ⟨k + 1, h', by omega, by go_num, hq⟩
                          case measure => simp [intOf]; omega
                    · have hke : k = bs.length := by omega
                      have HTe := Lib.hid (show Two w wr p g q h Lv (([] : List UInt8) ++ ns.flatMap M.enc ++ zs.flatMap encInt ++ ss.flatMap encT ++ bs.flatMap M.encBool) by have := HT.out; rwa [List.take_of_length_le (by omega)] at this)
                      have HKE := Lib.hid hke
                      clear hke HT
                      go_wp2_with fail
                      have HTE := Lib.hid (show Two w wr p g q h Lv Lv by have := HTe.out; rwa [← HLVE.out] at this)

                      refine Reg.wp_region_facts (A := ?Afz) (fun w' => Below wr.heap.size wr w') wr.heap.size
                        [Is (.pointer (some ⟨p, 0, none⟩)), Is (.pointer (some ⟨p, 0, none⟩)), Is (.pointer (some ⟨p, 0, none⟩)), CopyB Lv, Is (.string (strOf Lv)),
                         Is (.pointer (some ⟨q, 0, none⟩)), Is (.pointer (some ⟨q, 0, none⟩)), Is (.pointer (some ⟨q, 0, none⟩)), CopyB Lv, Is (.string (strOf Lv)), Is (.bool true), Is (.bool true)]
                        (by kernel_rfl) (by kernel_rfl) rfl ?hAe ?hCe ?hBe ?hoe ?hlaste ?hende
                      case hAe => intro vs; simp only [Reg.fill, if_true, Nat.zero_add, Nat.reduceAdd, Act.put, List.setIfInBounds_toArray, List.set_cons_succ, List.set_cons_zero]; exact rfl
                      case hCe => exact (Below.refl _ _).drew
                      case hBe => exact fun w' hb => hb.size
                      case hlaste => repeat (first | exact trivial | refine ⟨Is.lastB, ?_⟩ | refine ⟨CopyB.last, ?_⟩)
                      case hoe =>
                        repeat' apply And.intro
                        all_goals
                          first
                            | exact trivial
                            | (intro vs w' hC hd K hK
                               try simp only [Reg.Deps, Reg.at_, List.getD_cons_zero, List.getD_cons_succ, Region.binds, true_implies, Is, and_true] at hd
                               go_simp
                               first
                                 | exact hK _ _ hC (Below.refl _ _) rfl
                                 | skip)
                        · refine (bytes_any w' p g Lv (HTE.out.left.keep (Keeps.of_below hC []) (by simp) (by simp)) HLV.out).mono ?_
                          rintro e w'' ⟨A, c, b', rfl, hb', hg', _, _, _, hk⟩
                          exact ⟨_, rfl, hK _ _ (hC.trans ((hk.below (B := w'.heap.size) (by simp) (Nat.le_refl _)).mono hC.size)) (hk.below (by simp) (Nat.le_refl _)) ⟨A, c, b', rfl, hb'⟩⟩
                        · obtain ⟨A, c, b', hv, hb'⟩ := hd
                          rw [hv, conv_text w' b' A Lv c hb']
                          exact hK _ _ hC (Below.refl _ _) rfl
                        · refine (bytes_any w' q h Lv (HTE.out.right.keep (Keeps.of_below hC []) (by simp) (by simp)) HLV.out).mono ?_
                          rintro e w'' ⟨A, c, b', rfl, hb', hg', _, _, _, hk⟩
                          exact ⟨_, rfl, hK _ _ (hC.trans ((hk.below (B := w'.heap.size) (by simp) (Nat.le_refl _)).mono hC.size)) (hk.below (by simp) (Nat.le_refl _)) ⟨A, c, b', rfl, hb'⟩⟩
                        · obtain ⟨A, c, b', hv, hb'⟩ := hd
                          rw [hv, conv_text w' b' A Lv c hb']
                          exact hK _ _ hC (Below.refl _ _) rfl
                      case hende =>
                        intro vs w' hC hall
                        simp only [Reg.All, Is, and_true, Nat.zero_add, Nat.reduceAdd] at hall
                        have h11 : vs 11 = Value.bool true := by simp only [hall]
                        have HCK := Lib.hid hC
                        clear hall hC
                        go_wp2
                        go_ret
                        exact ⟨by simp [h11], (HTE.out.keep.trans (Keeps.of_below HCK.out []) (by simp)).below (by simp) (Nat.le_refl _)⟩

end Go.Proofs.Ytpjnckdekoooeaa.codeTogether
