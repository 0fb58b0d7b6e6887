/- LexBounds: how long names, numbers and texts may be. -/
import Derived.Test.YtieghhhiclpeiaaDoorLReads
import Derived.Test.YtieghhhiclpeiaaDoorLMath4
import Derived.Test.YtieghhhiclpeiaaDoorLBytes
import Derived.IntWalk
namespace Go.Proofs.YtieghhhiclpeiaaDoor
open Go.RowKit Go.Shelf

theorem nat_u64 {n : Int} (wf : (Lit.int .u64 n).wf = true) : ∃ m : Nat, n = (m : Int) ∧ m < 18446744073709551616 := by
  have hb : 0 ≤ n ∧ n ≤ 18446744073709551615 := by
    simpa [Lit.wf, IntKind.min, IntKind.max, IntKind.bits, IntKind.signed] using wf
  exact ⟨n.toNat, by omega, by omega⟩
theorem digs_cut {m : Nat} (h : m < 10) : (([48, 49, 50, 51, 52, 53, 54, 55, 56, 57] : List UInt8).drop m).take 1 = [UInt8.ofNat (48 + m)] := by
  match m, h with
  | 0, _ => rfl | 1, _ => rfl | 2, _ => rfl | 3, _ => rfl | 4, _ => rfl
  | 5, _ => rfl | 6, _ => rfl | 7, _ => rfl | 8, _ => rfl | 9, _ => rfl
set_option maxHeartbeats 1000000 in
theorem digits_any : ∀ (n : Nat) (w : World), n < 18446744073709551616 →
    Calls Tryd.prog 12 #[.int .u64 (n : Int)] w fun e w' => e = .returned (.string (strO (Lx.dec n))) ∧ w = w' := by
  intro n
  induction n using Nat.strongRecOn with
  | ind n ih =>
    intro w hn
    by_cases h : n < 10
    · rw [Lx.dec_small h]
      obtain ⟨q, hq⟩ : ∃ q, q = strO [UInt8.ofNat (48 + n)] := ⟨_, rfl⟩
      have hsl : ∀ w, (Instr.slice 9 (.string ⟨#[48, 49, 50, 51, 52, 53, 54, 55, 56, 57]⟩) (some (.int .u64 (n : Int))) (some (.int .u64 ((n : Int) + 1))) none).run Tryd.prog w = .ok (.string q) w := fun w => by
        rw [show (⟨#[48, 49, 50, 51, 52, 53, 54, 55, 56, 57]⟩ : ByteArray) = strO [48, 49, 50, 51, 52, 53, 54, 55, 56, 57] from rfl, run_slice_string w 9 _ .u64 .u64 _ _ Tryd.underlying9 (by omega) (by omega) (by rw [strO_len]; show _ ≤ ((10 : Nat) : Int); omega), strO_extract, show ((n : Int) + 1).toNat - ((n : Int)).toNat = 1 by omega, Int.toNat_natCast, digs_cut h, hq]
      rw [← hq]
      clear hq ih hn
      go_enter Tryd.func12, Tryd.ntmps12
      go_wp2_with fail
      go_ret
      exact ⟨rfl, rfl⟩
    · rw [Lx.dec_great h]
      have H1 := Lib.hid (fun w' => ih (n / 10) (by omega) w' (by omega))
      have H2 := Lib.hid (fun w' => ih (n % 10) (by omega) w' (by omega))
      have hz1 := Lx.dec_len20 (n := n / 10) (by omega)
      have hz2 := Lx.dec_len20 (n := n % 10) (by omega)
      obtain ⟨q, hq⟩ : ∃ q, q = n / 10 := ⟨_, rfl⟩
      obtain ⟨r, hr⟩ : ∃ r, r = n % 10 := ⟨_, rfl⟩
      have d1 : ((n : Nat) : Int).tdiv 10 = (q : Int) := by rw [Int.tdiv_eq_ediv_of_nonneg (by omega)]; omega
      have d2 : ((n : Nat) : Int).tmod 10 = (r : Int) := by rw [Int.tmod_eq_emod_of_nonneg (by omega)]; omega
      have d3 : ((n : Nat) : Int) / 10 = (q : Int) := by omega
      have d4 : ((n : Nat) : Int) % 10 = (r : Int) := by omega
      rw [← hq] at H1 hz1 ⊢
      rw [← hr] at H2 hz2 ⊢
      obtain ⟨a, ha⟩ : ∃ a, a = strO (Lx.dec q) := ⟨_, rfl⟩
      obtain ⟨b, hb⟩ : ∃ b, b = strO (Lx.dec r) := ⟨_, rfl⟩
      have has : a.size ≤ 20 := by rw [ha, strO_len]; exact hz1
      have hbs : b.size ≤ 20 := by rw [hb, strO_len]; exact hz2
      have HAB := Lib.hid (show a ++ b = strO (Lx.dec q ++ Lx.dec r) by rw [ha, hb, strO_add])
      rw [← ha] at H1
      rw [← hb] at H2
      rw [← HAB.out]
      have hd : decide ((n : Int) < 10) = false := by simp; omega
      clear hq hr ha hb hz1 hz2 ih h
      go_enter Tryd.func12, Tryd.ntmps12
      go_wp2_with fail
      refine (H1.out w).mono ?_
      rintro e w' ⟨rfl, rfl⟩
      go_wp2_with fail
      refine (H2.out w).mono ?_
      rintro e w' ⟨rfl, rfl⟩
      go_wp2_with fail
      go_ret
      exact ⟨rfl, rfl⟩

/-! ### Rows of bytes, filled -/
def U8At (w : World) (g : Nat) (l : List UInt8) : Prop := w.heap[g]? = some (.cells (u8s l).toArray 5 (0, 0))
theorem U8At.cell {w : World} {g : Nat} {l : List UInt8} (h : U8At w g l) {i : Nat} (hi : i < l.length) : w.cell? ⟨g, i, none⟩ = some (.int .u8 ((l[i].toNat : Nat) : Int)) := by
  rw [row_cell h]; simp [u8s_get hi]
theorem U8At.bytes {w : World} {g : Nat} {l : List UInt8} (h : U8At w g l) : BytesIn w g (some ⟨g, 0, none⟩) l := .inr ⟨0, rfl, fun k hk => by rw [Nat.zero_add]; exact h.cell hk⟩
theorem U8At.set {w : World} {g : Nat} {l : List UInt8} (h : U8At w g l) (i : Nat) (b : UInt8) : U8At (w.setCell ⟨g, i, none⟩ (.int .u8 ((b.toNat : Nat) : Int))) g (l.set i b) := by
  unfold U8At
  rw [row_set h]
  simp [u8s, List.map_set]
theorem U8At.put {w : World} {g : Nat} {l : List UInt8} (h : U8At w g l) (i : Nat) (b : UInt8) (v : Value) (hv : v = .int .u8 ((b.toNat : Nat) : Int)) : U8At (w.setCell ⟨g, i, none⟩ v) g (l.set i b) := by rw [hv]; exact h.set i b
theorem made_row {w : World} {base n g : Nat} (h : w.ownsRow base 5 1 (.slice (some ⟨g, 0, none⟩) n n) n (madeCells #[Value.int .u8 0] n).toList) : U8At w g (List.replicate n 0) := by
  rcases h.2 with ⟨h0, _⟩ | ⟨g', cp, cur, h2, _, h3, _, _, h4, h5⟩
  · cases h0
  · cases h2
    rw [List.take_of_length_le (by rw [Array.length_toList]; omega)] at h5
    have e : cur = madeCells #[Value.int .u8 0] n := Array.ext' h5
    unfold U8At
    rw [h3, e]
    congr 2
    apply Array.ext
    · simp [madeCells, u8s]
    · intro j q1 q2
      simp [madeCells, u8s, Nat.mod_one]
theorem fill_set (x : UInt8) (n j : Nat) (hj : j < n) : (List.replicate j x ++ List.replicate (n - j) (0 : UInt8)).set j x = List.replicate (j + 1) x ++ List.replicate (n - (j + 1)) 0 := by
  have e : n - j = (n - (j + 1)) + 1 := by omega
  rw [e, List.replicate_succ, List.set_append_right _ _ (by simp), List.length_replicate, Nat.sub_self, List.set_cons_zero, List.replicate_succ' (n := j), List.append_assoc]; rfl

theorem toks_aside {w : World} {g G : Nat} {A : Option Addr} {ts : List Lx.Tok} (h : ToksIn w g A ts) (hg : ts = [] ∨ g < G) (j : Nat) (v : Value) : ToksIn (w.setCell ⟨G, j, none⟩ v) g A ts := by
  rcases hg with hg | hg
  · exact .inl hg
  · exact h.keep (S := [G]) ((Keeps.refl [G] w).setCell (fun _ => by simp) v) (by simp; omega)
set_option maxHeartbeats 8000000 in
set_option maxRecDepth 100000 in
theorem lbounds_any (w : World) (he : ErrAt w) (n0 : Int) (wf0 : (Lit.int .u8 n0).wf = true) (n1 : Int) (wf1 : (Lit.int .u64 n1).wf = true) :
    Calls Tryd.prog 5 #[.int .u8 n0, .int .u64 n1] w (Yes w) := by
  have HK0 := Lib.hid (known_any w he)
  have HE := Lib.hid he
  obtain ⟨iU, hU, hU0, hU1, hU2⟩ := info_parts infoU8
  obtain ⟨b, rfl⟩ := byte_of wf0
  obtain ⟨d, rfl, hd⟩ := nat_u64 wf1
  have hb256 := u8_256 b
  obtain ⟨bn, hbn⟩ : ∃ x, x = b.toNat := ⟨_, rfl⟩
  rw [← hbn] at hb256 ⊢
  obtain ⟨m6, h6⟩ : ∃ m, m = bn % 6 := ⟨_, rfl⟩
  obtain ⟨m5, h5⟩ : ∃ m, m = bn % 5 := ⟨_, rfl⟩
  have r6 : ((bn : Nat) : Int) % 6 = (m6 : Int) := by omega
  have r5 : ((bn : Nat) : Int) % 5 = (m5 : Int) := by omega
  have hm6 : m6 < 6 := by omega
  have hm5 : m5 < 5 := by omega
  have HDIG := Lib.hid (fun w' => digits_any d w' hd)
  have HDL := Lib.hid (Lx.dec_len20 hd)
  have HTD := Lib.hid (Lx.toks_dec hd)
  obtain ⟨k, hk⟩ : ∃ k, k = 29 + m6 := ⟨_, rfl⟩
  obtain ⟨nc, hnc⟩ : ∃ k, k = 4094 + m5 := ⟨_, rfl⟩
  have e29 : (29 : Int) + (m6 : Int) = (k : Int) := by omega
  have e4094 : (4094 : Int) + (m5 : Int) = (nc : Int) := by omega
  have hk1 : 29 ≤ k := by omega
  have hk2 : k ≤ 34 := by omega
  have hn1 : 4094 ≤ nc := by omega
  have hn2 : nc ≤ 4098 := by omega
  clear he wf0 wf1 hbn h6 h5 hd hk hnc
  go_enter Tryd.func5, Tryd.ntmps5
  go_wp2_with fail
  refine (HK0.out).mono ?_
  rintro e w1 ⟨rfl, hk3⟩
  have HK1 := Lib.hid hk3
  clear hk3
  go_wp2_with (at_make; refine wpList_make_full _ rfl _ _ 31 rfl w1.heap.size 5 iU (.int .u8 0) 1 Tryd.underlying31 hU hU0 hU1 .i64 .i64 (k : Int) (k : Int) k rfl rfl rfl rfl (by rw [hU2]; omega) (by unfold maxLen; omega) (Nat.le_refl _) ?_)
  intro w2 ho2 hg2
  have HZ2 := Lib.hid (made_row ho2)
  have HK2 := Lib.hid (HK1.out.trans ((Keeps.of_grown hg2).mono (T := []) (by simp)) (by simp))
  have HLT := Lib.hid HK1.out.size
  obtain ⟨G, hG⟩ : ∃ G, G = w1.heap.size := ⟨_, rfl⟩
  rw [← hG] at HZ2 HLT
  clear ho2 hg2
  rw [← hG]
  clear hG
  go_wp2_with fail
  go_loopw [7] (fun jv wq => ∃ j : Nat, j ≤ k ∧ jv = .int .i64 (j : Int) ∧ U8At wq G (List.replicate j 120 ++ List.replicate (k - j) 0) ∧ Keeps [] w wq) (fun jv _ => k - (RowKit.intOf jv).toNat)
  case atStart => exact ⟨0, by omega, rfl, by simpa using HZ2.out, HK2.out⟩
  case round =>
    obtain ⟨j, hj, rfl, hb, hkq⟩ := hrel
    have HU := Lib.hid hb
    have HKQ := Lib.hid hkq
    by_cases hjn : j < k
    · have hz := row_free hb j
      obtain ⟨y, hc⟩ : ∃ y : Value, wr.cell? ⟨G, j, none⟩ = some y := ⟨_, hb.cell (i := j) (by rw [List.length_append, List.length_replicate, List.length_replicate]; omega)⟩
      have HVZ := Lib.hid (fill_set 120 k j hjn)
      clear hb hkq
      go_wp2_with fail
      go_roundw
      case rel =>
        refine ⟨j + 1, by omega, by go_num, ?_, HKQ.out.setCell (fun h => absurd h (by have := HLT.out; show ¬ G < _; omega)) _⟩
        rw [← HVZ.out]
        exact HU.out.put j 120 _ rfl
      case measure => simp [RowKit.intOf]; omega
    · have hjn' : k = j := by omega
      subst hjn'
      rw [Nat.sub_self, List.replicate_zero, List.append_nil] at hb
      have HBB := Lib.hid (conv_bytes wr G _ _ k hb.bytes)
      rw [List.length_replicate] at HBB
      obtain ⟨sx, hsx⟩ : ∃ s, s = strO (List.replicate k 120) := ⟨_, rfl⟩
      have hsz : sx.size ≤ 100 := by rw [hsx, strO_len, List.length_replicate]; omega
      have hstr : (⟨#[32]⟩ ++ sx : ByteArray) = strO ([32] ++ Lx.xs k) := by rw [hsx, show (⟨#[32]⟩ : ByteArray) = strO [32] from rfl, strO_add]; rfl
      have HT := Lib.hid (fun w' (h : ErrAt w') => tokens_any w' ([32] ++ Lx.xs k) (by simp [Lx.xs]; omega) h)
      have HN := Lib.hid (Lx.toks_name (k := k) (by omega) (by omega))
      rw [← hstr] at HT
      rw [← hsx] at HBB
      have hcv := HBB.out
      obtain ⟨⟨ts1, po1, er1⟩, ho1⟩ : ∃ o, o = Lx.toks ([32] ++ Lx.xs k) := ⟨_, rfl⟩
      rw [← ho1] at HT HN
      have HNB := Lib.hid (show (32 < k → er1 = 53 ∧ po1 = 1) ∧ (k ≤ 32 → er1 = 0) from ⟨fun h => by have := HN.out.1 h; simp at this; exact ⟨this.2.2, this.2.1⟩, fun h => HN.out.2 h⟩)
      obtain ⟨pi1, hpi1⟩ : ∃ x : Int, x = ((po1 : Nat) : Int) := ⟨_, rfl⟩
      obtain ⟨ei1, hei1⟩ : ∃ x : Int, x = ((er1 : Nat) : Int) := ⟨_, rfl⟩
      have HP1 := Lib.hid hpi1
      have HE1 := Lib.hid hei1
      clear hsx hstr hb hkq HBB HU HN ho1 hpi1 hei1
      go_wp2_with fail
      refine (HT.out wr (HE.out.keep HKQ.out)).mono ?_
      rintro e w3 ⟨A1, c1, g1, rfl, _, _, hk3⟩
      simp only
      rw [← HP1.out, ← HE1.out]
      have HK3 := Lib.hid (HKQ.out.trans hk3 (by simp))
      clear hk3
      go_wp2_with fail
      refine (HDIG.out w3).mono ?_
      rintro e w' ⟨rfl, rfl⟩
      have HTX := Lib.hid (fun w' (h : ErrAt w') => tokens_any w' (Lx.dec d) (by have := HDL.out; omega) h)
      obtain ⟨sd, hsd⟩ : ∃ s, s = strO (Lx.dec d) := ⟨_, rfl⟩
      rw [← hsd] at HTX
      rw [← hsd]
      have HSD := Lib.hid hsd
      obtain ⟨⟨ts2, po2, er2⟩, ho2⟩ : ∃ o, o = Lx.toks (Lx.dec d) := ⟨_, rfl⟩
      rw [← ho2] at HTX HTD
      obtain ⟨pi2, hpi2⟩ : ∃ x : Int, x = ((po2 : Nat) : Int) := ⟨_, rfl⟩
      obtain ⟨ei2, hei2⟩ : ∃ x : Int, x = ((er2 : Nat) : Int) := ⟨_, rfl⟩
      have HP2 := Lib.hid hpi2
      have HE2 := Lib.hid hei2
      clear hsd ho2 hpi2 hei2
      go_wp2_with fail
      refine (HTX.out w3 (HE.out.keep HK3.out)).mono ?_
      rintro e w4 ⟨A2, c2, g2, rfl, hti, _, hk4⟩
      simp only
      rw [← HP2.out, ← HE2.out]
      simp only at hti
      have HTI := Lib.hid hti
      have HK4 := Lib.hid (HK3.out.trans hk4 (by simp))
      clear hk4 hti
      go_wp2_with (at_make; refine wpList_make_full _ rfl _ _ 31 rfl w4.heap.size 5 iU (.int .u8 0) 1 Tryd.underlying31 hU hU0 hU1 .i64 .i64 (nc : Int) (nc : Int) nc rfl rfl rfl rfl (by rw [hU2]; omega) (by unfold maxLen; omega) (Nat.le_refl _) ?_)
      intro w5 ho5 hg5
      have HZ5 := Lib.hid (made_row ho5)
      have HTI5 := Lib.hid (HTI.out.keep ((Keeps.of_grown hg5).mono (T := []) (by simp)) (by simp))
      have HK5 := Lib.hid (HK4.out.trans ((Keeps.of_grown hg5).mono (T := []) (by simp)) (by simp))
      have HLT5 := Lib.hid HK4.out.size
      have HG2 : Hid (ts2 = [] ∨ g2 < w4.heap.size) := Lib.hid (by
        rcases HTI.out with h | ⟨off, _, hc⟩
        · exact .inl h
        · by_cases h0 : ts2 = []
          · exact .inl h0
          · exact .inr (World.block_lt_of_cell? w4 _ (hc 0 (List.length_pos_iff.2 h0)).1))
      obtain ⟨G5, hG⟩ : ∃ G, G = w4.heap.size := ⟨_, rfl⟩
      rw [← hG] at HZ5 HLT5 HG2
      clear ho5 hg5
      rw [← hG]
      clear hG
      go_wp2_with fail
      go_loopw [16] (fun jv wq => ∃ j : Nat, j ≤ nc ∧ jv = .int .i64 (j : Int) ∧ U8At wq G5 (List.replicate j 32 ++ List.replicate (nc - j) 0) ∧ Keeps [] w wq ∧ Hid (ToksIn wq g2 A2 ts2)) (fun jv _ => nc - (RowKit.intOf jv).toNat)
      case atStart => exact ⟨0, by omega, rfl, by simpa using HZ5.out, HK5.out, HTI5⟩
      case round =>
        obtain ⟨j, hj, rfl, hb, hkq, HTQ⟩ := hrel
        have HU := Lib.hid hb
        have HKQ := Lib.hid hkq
        by_cases hjn : j < nc
        · have hz := row_free hb j
          obtain ⟨y, hc⟩ : ∃ y : Value, wr.cell? ⟨G5, j, none⟩ = some y := ⟨_, hb.cell (i := j) (by rw [List.length_append, List.length_replicate, List.length_replicate]; omega)⟩
          have HVZ := Lib.hid (fill_set 32 nc j hjn)
          clear hb hkq
          go_wp2_with fail
          go_roundw
          case rel =>
            refine ⟨j + 1, by omega, by go_num, ?_, HKQ.out.setCell (fun h => absurd h (by have := HLT5.out; show ¬ G5 < _; omega)) _, Lib.hid (toks_aside HTQ.out HG2.out _ _)⟩
            rw [← HVZ.out]
            exact HU.out.put j 32 _ rfl
          case measure => simp [RowKit.intOf]; omega
        · have hjn' : nc = j := by omega
          subst hjn'
          rw [Nat.sub_self, List.replicate_zero, List.append_nil] at hb
          have HBB := Lib.hid (conv_bytes wr G5 _ _ nc hb.bytes)
          rw [List.length_replicate] at HBB
          obtain ⟨sy, hsy⟩ : ∃ s, s = strO (List.replicate nc 32) := ⟨_, rfl⟩
          have HTS := Lib.hid (fun w' (h : ErrAt w') => tokens_any w' (List.replicate nc 32) (by simp; omega) h)
          have HN := Lib.hid (Lx.toks_spaces nc)
          rw [← hsy] at HTS HBB
          have hcv := HBB.out
          obtain ⟨⟨ts3, po3, er3⟩, ho3⟩ : ∃ o, o = Lx.toks (List.replicate nc 32) := ⟨_, rfl⟩
          rw [← ho3] at HTS HN
          obtain ⟨ei3, hei3⟩ : ∃ x : Int, x = ((er3 : Nat) : Int) := ⟨_, rfl⟩
          have HE3 := Lib.hid hei3
          clear hsy hb hkq HBB HU ho3 hei3
          go_wp2_with fail
          refine (HTS.out wr (HE.out.keep HKQ.out)).mono ?_
          rintro e w6 ⟨A3, c3, g3, rfl, _, _, hk6⟩
          simp only
          rw [← HE3.out]
          have HK6 := Lib.hid (HKQ.out.trans hk6 (by simp))
          have HT6 := Lib.hid (HTQ.out.keep hk6 (by simp))
          clear hk6
          have HNS := Lib.hid (show (4096 < nc → er3 = 53) ∧ (nc ≤ 4096 → er3 = 0) from HN.out)
          have h1 : (32 < k ∧ ei1 = 53 ∧ pi1 = 1) ∨ (k ≤ 32 ∧ ei1 = 0) := by
            by_cases h : 32 < k
            · have := HNB.out.1 h
              exact .inl ⟨h, by rw [HE1.out, this.1]; rfl, by rw [HP1.out, this.2]; rfl⟩
            · exact .inr ⟨by omega, by rw [HE1.out, HNB.out.2 (by omega)]; rfl⟩
          have h3 : (4096 < nc ∧ ei3 = 53) ∨ (nc ≤ 4096 ∧ ei3 = 0) := by
            by_cases h : 4096 < nc
            · exact .inl ⟨h, by rw [HE3.out, HNS.out.1 h]; rfl⟩
            · exact .inr ⟨by omega, by rw [HE3.out, HNS.out.2 (by omega)]; rfl⟩
          have h2 : ((9223372036854775807 : Int) < (d : Int) ∧ ei2 = 53 ∧ pi2 = 0) ∨ (¬ (9223372036854775807 : Int) < (d : Int) ∧ ei2 = 0 ∧ ts2 = [⟨1, Lx.dec d, 0⟩]) := by
            by_cases h : 9223372036854775807 < d
            · have h := HTD.out.1 h
              injection h with q1 q2 q3
              exact .inl ⟨by omega, by rw [HE2.out, q3]; rfl, by rw [HP2.out, q2]; rfl⟩
            · have h := HTD.out.2 h
              injection h with q1 q2 q3
              exact .inr ⟨by omega, by rw [HE2.out, q3]; rfl, q1⟩
          clear HN e29 e4094 r5 r6
          rcases h2 with ⟨hd2, he2, hp2⟩ | ⟨hd2, he2, ht2⟩
          · subst he2 hp2
            rcases h1 with ⟨hk32, he1, hp1⟩ | ⟨hk32, he1⟩
            · subst he1 hp1
              rcases h3 with ⟨hc4, he3⟩ | ⟨hc4, he3⟩
              · subst he3
                have dn : decide ((4096 : Int) < (nc : Int)) = true := by simp; omega
                go_wp2_with fail
                go_ret
                exact ⟨rfl, HK6.out⟩
              · subst he3
                have dn : decide ((4096 : Int) < (nc : Int)) = false := by simp; omega
                go_wp2_with fail
                go_ret
                exact ⟨rfl, HK6.out⟩
            · subst he1
              rcases h3 with ⟨hc4, he3⟩ | ⟨hc4, he3⟩
              · subst he3
                have dn : decide ((4096 : Int) < (nc : Int)) = true := by simp; omega
                go_wp2_with fail
                go_ret
                exact ⟨rfl, HK6.out⟩
              · subst he3
                have dn : decide ((4096 : Int) < (nc : Int)) = false := by simp; omega
                go_wp2_with fail
                go_ret
                exact ⟨rfl, HK6.out⟩
          · subst he2
            rw [ht2] at HT6
            rcases HT6.out with h0 | ⟨off, hA2, hc2⟩
            · cases h0
            have x1 := (hc2 0 (by simp)).2.1
            simp only [Nat.zero_mul, Nat.add_zero, List.getElem_cons_zero] at x1
            rw [← HSD.out] at x1
            subst hA2
            subst ht2
            clear hc2
            rcases h1 with ⟨hk32, he1, hp1⟩ | ⟨hk32, he1⟩
            · subst he1 hp1
              rcases h3 with ⟨hc4, he3⟩ | ⟨hc4, he3⟩
              · subst he3
                have dn : decide ((4096 : Int) < (nc : Int)) = true := by simp; omega
                go_wp2_with fail
                go_ret
                exact ⟨rfl, HK6.out⟩
              · subst he3
                have dn : decide ((4096 : Int) < (nc : Int)) = false := by simp; omega
                go_wp2_with fail
                go_ret
                exact ⟨rfl, HK6.out⟩
            · subst he1
              rcases h3 with ⟨hc4, he3⟩ | ⟨hc4, he3⟩
              · subst he3
                have dn : decide ((4096 : Int) < (nc : Int)) = true := by simp; omega
                go_wp2_with fail
                go_ret
                exact ⟨rfl, HK6.out⟩
              · subst he3
                have dn : decide ((4096 : Int) < (nc : Int)) = false := by simp; omega
                go_wp2_with fail
                go_ret
                exact ⟨rfl, HK6.out⟩
end Go.Proofs.YtieghhhiclpeiaaDoor
