/- CodeInts: the walk. -/
import Derived.Test.YtpjnckdekoooeaaCKnown
import Derived.Test.YtpjnckdekoooeaaRegion
namespace Go.Proofs.Ytpjnckdekoooeaa.codeInts
open Go.RowKit
open Reg (Is Fact)

theorem _root_.Go.Proofs.Ytpjnckdekoooeaa.int_one {w : World} {p g : Nat} {l : List UInt8} {z : Int} (hw : WrAt w p g l) (hz : Wide z) (hl : l.length + 10 ≤ 70368744177664) :
    Calls Try.prog 14 #[.pointer (some ⟨p, 0, none⟩), .slice (some ⟨w.heap.size, 0, none⟩) 1 1] (w.alloc (.cells #[.int .i64 z] 2)) fun e w' =>
      e = .returned (.tuple #[]) ∧ ∃ g', WrAt w' p g' (l ++ encInt z) ∧ (g' = g ∨ w.heap.size ≤ g') ∧ Keeps [p, g] w w' := by
  have hlt := hw.lt
  have hk := (Keeps.refl [] w).alloc (.cells #[.int .i64 z] 2)
  refine (int_any _ p g w.heap.size l _ [z] 1 (hw.keep hk (by simp) (by simp)) (.inr ⟨0, rfl, fun k hk => ?_⟩) (by omega) (by omega) (by simpa using hz) (by simpa using hl)).mono ?_
  · have : k = 0 := by simpa [ints] using hk
    subst this
    simp [ints]
  · rintro e w' ⟨rfl, g', h1, h2, h3⟩
    refine ⟨rfl, g', by simpa using h1, ?_, ?_⟩
    · have := hk.size; omega
    · exact (hk.mono (by simp)).trans h3 (fun i hi _ => hi)

theorem dec_int {z : Int} (h : Wide z) : M.dec 0 0 (encInt z) = some (M.zig z, []) := by
  have := M.dec_back (M.zig_lt h.1 h.2) []
  rwa [List.append_nil] at this


theorem _root_.Go.Proofs.Ytpjnckdekoooeaa.RdAt.ne {w : World} {p g : Nat} {l : List UInt8} {f : Bool} (h : RdAt w p g l f) (hl : 0 < l.length) : g ≠ p := by
  obtain ⟨A, cap, hb, hbi, _, _⟩ := h
  rcases hbi with hbi | ⟨off, rfl, hcell⟩
  · subst hbi; simp at hl
  · exact RdAt.apart hb (by intro i c; match i with | 0 => simp | 1 => simp | i + 2 => simp) hl hcell

attribute [local go_sem] Reg.wantedV Reg.gives_value Reg.gives_skip Reg.gives_enter
/-- Of what has come up and the world: the reader alone has turned, and not ahead of its own operation. -/
def CI (w6 : World) (r gr : Nat) (l : List UInt8) (L : Nat → Bool) (w : World) : Prop := Keeps [r] w6 w ∧ (L 17 = false → RdAt w r gr l false)
def GI (r gr : Nat) (w w' : World) : Prop := Keeps [r] w w' ∧ (RdAt w r gr [] false → gr ≠ r → RdAt w' r gr [] false)
theorem CI.lay {w6 w w' : World} {r gr : Nat} {l : List UInt8} {L : Nat → Bool} {i : Nat} (h : CI w6 r gr l L w) (hi : i ≠ 17) (hk : Keeps [] w w') : CI w6 r gr l (Reg.lay L i) w' :=
  ⟨h.1.trans hk (by simp), fun hl => (h.2 (by simp [Reg.lay] at hl; exact hl.1)).keep hk (by simp) (by simp)⟩
theorem GI.of {w w' : World} {r gr : Nat} (hk : Keeps [] w w') : GI r gr w w' := ⟨hk.mono (by simp), fun h _ => h.keep hk (by simp) (by simp)⟩
theorem GI.same (w : World) (r gr : Nat) : GI r gr w w := GI.of (Keeps.refl _ _)
/-- A copy of l. -/
def CopyF (r : Nat) (l : List UInt8) : Fact := fun v w => ∃ A c b, v = .slice A l.length c ∧ BytesIn w b A l ∧ b ≠ r
/-- The value is u, and the reader has been read to its end. -/
def Then (r gr : Nat) (u : Value) : Fact := fun v w => v = u ∧ RdAt w r gr [] false
theorem CopyF.last {r gr : Nat} {l : List UInt8} : ∀ v w w', CopyF r l v w → GI r gr w w' → CopyF r l v w' :=
  fun _ _ _ ⟨A, c, b, h1, h2, h3⟩ hg => ⟨A, c, b, h1, h2.keep hg.1 (by simpa using h3), h3⟩
theorem Then.last {r gr : Nat} {u : Value} (hn : gr ≠ r) : ∀ v w w', Then r gr u v w → GI r gr w w' → Then r gr u v w' := fun _ _ _ ⟨h1, h2⟩ hg => ⟨h1, hg.2 h2 hn⟩
theorem Is.lastI {r gr : Nat} {u : Value} : ∀ v w w', Is u v w → GI r gr w w' → Is u v w' := fun _ _ _ h _ => h

set_option maxHeartbeats 2000000 in
set_option maxRecDepth 100000 in
theorem walk_le (a b : Int) (w : World) (ha : Wide a) (hb : Wide b) (hz : M.zig a ≤ M.zig b) :
    Calls Try.prog 6 #[.int .i64 a, .int .i64 b] w fun e w' => e = .returned (.bool true) ∧ Below w.heap.size w w' := by
  have HA := Lib.hid ha
  have HB := Lib.hid hb
  clear ha hb
  go_enter Try.func6, Try.ntmps6
  go_wp2_with fail
  refine (known_any w).mono ?_
  rintro e w0 ⟨rfl, hk0⟩
  have HK0 := Lib.hid hk0
  clear hk0
  go_wp2_with fail
  refine (newWriter_any w0).mono ?_
  rintro e w1 ⟨p, rfl, hp, hw1, hk1⟩
  have HP := Lib.hid hp
  have HW1 := Lib.hid hw1
  have HK1 := Lib.hid hk1
  clear hp hw1 hk1
  go_wp2_with fail
  refine (newWriter_any w1).mono ?_
  rintro e w2 ⟨q, rfl, hq, hv2, hk2⟩
  have HQ := Lib.hid hq
  have HW2 := Lib.hid (HW1.out.keep hk2 (by simp) (by simp))
  have HV2 := Lib.hid hv2
  have HK2 := Lib.hid hk2
  clear hq hv2 hk2
  go_wp2_with fail
  refine (int_one HW2.out HA.out (by simp)).mono ?_
  rintro e w3 ⟨rfl, g, hw3, hg, hk3⟩
  rw [List.nil_append] at hw3
  have hpq : p < q := by have := HW1.out.lt; have := HQ.out; omega
  have HV3 := Lib.hid (HV2.out.keep hk3 (by simp; omega) (by simp; omega))
  have HW3 := Lib.hid hw3
  have HK3 := Lib.hid hk3
  have HG := Lib.hid hg
  have HPQ := Lib.hid hpq
  clear hw3 hk3 hg hpq
  go_wp2_with fail
  refine (int_one HV3.out HB.out (by simp)).mono ?_
  rintro e w4 ⟨rfl, h, hv4, hh, hk4⟩
  rw [List.nil_append] at hv4
  have hgq : g ≠ q := by have := HG.out; have := HV2.out.lt; have := HPQ.out; omega
  have HW4 := Lib.hid (HW3.out.keep hk4 (by simp; have := HPQ.out; omega) (by simp; omega))
  have HV4 := Lib.hid hv4
  have HK4 := Lib.hid hk4
  have HH := Lib.hid hh
  clear hv4 hk4 hh hgq
  go_wp2_with fail
  refine (bytes_any w4 p g (encInt a) HW4.out (by have := encInt_len HA.out; omega)).mono ?_
  rintro e w5 ⟨A5, c5, b5, rfl, hb5, hg5, _, _, _, hk5⟩
  have HB5 := Lib.hid hb5
  have HK5 := Lib.hid hk5
  clear hb5 hg5 hk5
  go_wp2_with fail
  refine (newReader_any w5 b5 A5 (encInt a) c5 HB5.out (by have := encInt_len HA.out; omega)).mono ?_
  rintro e w6 ⟨r, gr, rfl, hr6, hr, hgr, hk6⟩
  have HW6 := Lib.hid ((HW4.out.keep HK5.out (by simp) (by simp)).keep hk6 (by simp) (by simp))
  have HV6 := Lib.hid ((HV4.out.keep HK5.out (by simp) (by simp)).keep hk6 (by simp) (by simp))
  have HR6 := Lib.hid hr6
  have HK6 := Lib.hid hk6
  have HR := Lib.hid hr
  have HGR := Lib.hid hgr
  clear hr6 hk6 hr hgr
  go_wp2_with fail

  obtain ⟨la, hla⟩ : ∃ la, la = encInt a := ⟨_, rfl⟩
  obtain ⟨lb, hlb⟩ : ∃ lb, lb = encInt b := ⟨_, rfl⟩
  rw [← hla] at HW6 HR6
  rw [← hlb] at HV6
  have hdl : M.dec 0 0 la = some (M.zig a, []) := by rw [hla]; exact dec_int HA.out
  have hlen : la.length ≤ 10 ∧ lb.length ≤ 10 := by rw [hla, hlb]; exact ⟨encInt_len HA.out, encInt_len HB.out⟩
  have hrp : p ≠ r ∧ g ≠ r ∧ q ≠ r ∧ h ≠ r ∧ gr ≠ r := by
    have h1 := HW4.out.lt; have h2 := HV4.out.lt; have h3 := HK5.out.size; have h4 := HR.out
    exact ⟨by omega, by omega, by omega, by omega, HR6.out.ne (by rw [hla]; exact M.enc_pos _)⟩
  have HDL := Lib.hid hdl
  have HLEN := Lib.hid hlen
  have HRP := Lib.hid hrp
  have hE : ∃ e : Bool, e = decide (a = b) := ⟨_, rfl⟩
  obtain ⟨e, he⟩ := hE
  have hab : (a == b) = e := by rw [he]; rfl
  have hab' : decide (a = b) = e := he.symm
  have HSTR := Lib.hid (show ((strOf la).toList == (strOf lb).toList) = e by
    rw [ByteArray.toList_eq, ByteArray.toList_eq, he, Bool.eq_iff_iff, beq_iff_eq, decide_eq_true_iff, hla, hlb]
    exact ⟨fun h => M.zig_inj (M.enc_inj (M.zig_lt HA.out.1 HA.out.2) (M.zig_lt HB.out.1 HB.out.2) h), fun h => by rw [h]⟩)
  have HGT := Lib.hid (show decide (M.zig b < M.zig a) = false by simp; omega)
  have hLE : (la.length : Int) ≤ (lb.length : Int) := by rw [hla, hlb]; have := M.enc_mono _ _ hz; unfold encInt; omega
  have HLA := Lib.hid hla
  have HLB := Lib.hid hlb
  clear hla hlb hdl hlen hrp he
  refine Reg.wp_region_state (A := ?A) (CI w6 r gr la) (GI r gr)
    [Is (.pointer (some ⟨p, 0, none⟩)), Is (.pointer (some ⟨p, 0, none⟩)), Is (.pointer (some ⟨p, 0, none⟩)), CopyF r la, Is (.string (strOf la)),
     Is (.pointer (some ⟨q, 0, none⟩)), Is (.pointer (some ⟨q, 0, none⟩)), Is (.pointer (some ⟨q, 0, none⟩)), CopyF r lb, Is (.string (strOf lb)),
     Is (.bool e), Is (.int .i64 a), Is (.int .i64 b), Is (.bool e), Is (.bool true), Is (.bool true),
     Is (.pointer (some ⟨r, 0, none⟩)), Then r gr (.int .i64 a), Is (.int .i64 a), Then r gr (.bool true), Then r gr (.bool true), Then r gr (.bool true),
     Is (.pointer (some ⟨r, 0, none⟩)), Is (.int .i64 0), Is (.bool true), Is (.bool true), Is (.bool true),
     Is (.int .i64 a), Is (.int .u64 ((M.zig a : Nat) : Int)), Is (.int .i64 b), Is (.int .u64 ((M.zig b : Nat) : Int)), Is (.bool false), Is (.bool false),
     Is (.pointer (some ⟨p, 0, none⟩)), Is (.pointer (some ⟨p, 0, none⟩)), Is (.pointer (some ⟨p, 0, none⟩)), CopyF r la, Is (.int .i64 (la.length : Int)), Is (.pointer (some ⟨q, 0, none⟩)), Is (.pointer (some ⟨q, 0, none⟩)), Is (.pointer (some ⟨q, 0, none⟩)), CopyF r lb, Is (.int .i64 (lb.length : Int)), Is (.bool true),
     Is (.bool true), Is (.bool true), Is (.bool true)]
    (by kernel_rfl) (by kernel_rfl) rfl ?hA ?hC ?ho ?hlast ?hend
  case hA => intro vs; simp only [Reg.fill, if_true, Nat.zero_add, Nat.reduceAdd, Act.put, List.setIfInBounds_toArray, List.set_cons_succ, List.set_cons_zero]; exact rfl
  case hC => exact ⟨(Keeps.refl _ _).drew, fun _ => HR6.out⟩
  case hlast => repeat (first | exact trivial | refine ⟨Is.lastI, ?_⟩ | refine ⟨CopyF.last, ?_⟩ | refine ⟨Then.last HRP.out.2.2.2.2, ?_⟩)
  case ho =>
    repeat' apply And.intro
    all_goals
      first
        | exact trivial
        | (intro L vs w' hC hL hd K hK
           try simp only [Reg.Deps, Reg.at_, List.getD_cons_zero, List.getD_cons_succ, Region.binds, true_implies, Is, Then, and_true] at hd
           go_simp
           first
             | exact hK _ _ (hC.lay (by decide) (Keeps.refl _ _)) (GI.same _ _ _) rfl
             | skip)
    · refine (bytes_any w' p g la (HW6.out.keep hC.1 (by simpa using HRP.out.1) (by simpa using HRP.out.2.1)) (by have := HLEN.out; omega)).mono ?_
      rintro e w'' ⟨A, c, b', rfl, hb', hg', _, _, _, hk⟩
      exact ⟨_, rfl, hK _ _ (hC.lay (by decide) hk) (GI.of hk) ⟨A, c, b', rfl, hb', by have := HR6.out.lt; have := hC.1.size; omega⟩⟩
    · obtain ⟨A, c, b', hv, hb', _⟩ := hd
      rw [hv, conv_text w' b' A la c hb']
      exact hK _ _ (hC.lay (by decide) (Keeps.refl _ _)) (GI.same _ _ _) rfl
    · refine (bytes_any w' q h lb (HV6.out.keep hC.1 (by simpa using HRP.out.2.2.1) (by simpa using HRP.out.2.2.2.1)) (by have := HLEN.out; omega)).mono ?_
      rintro e w'' ⟨A, c, b', rfl, hb', hg', _, _, _, hk⟩
      exact ⟨_, rfl, hK _ _ (hC.lay (by decide) hk) (GI.of hk) ⟨A, c, b', rfl, hb', by have := HR6.out.lt; have := hC.1.size; omega⟩⟩
    · obtain ⟨A, c, b', hv, hb', _⟩ := hd
      rw [hv, conv_text w' b' A lb c hb']
      exact hK _ _ (hC.lay (by decide) (Keeps.refl _ _)) (GI.same _ _ _) rfl
    · refine hK _ _ (hC.lay (by decide) (Keeps.refl _ _)) (GI.same _ _ _) ?_
      rw [HSTR.out]; rfl
    · refine (Int_gave w' r gr la [] _ (hC.2 hL) (fun w1 h => signed_ok h HDL.out)).mono ?_
      rintro e w'' ⟨rfl, hr'', hk⟩
      exact ⟨_, rfl, hK _ _ ⟨hC.1.trans hk (fun _ h _ => h), fun hl => by simp [Reg.lay] at hl⟩ ⟨hk, fun _ _ => hr''⟩ ⟨by rw [M.unzig_zig], hr''⟩⟩
    · exact hK _ _ (hC.lay (by decide) (Keeps.refl _ _)) (GI.same _ _ _) ⟨rfl, hd.1.2⟩
    · exact hK _ _ (hC.lay (by decide) (Keeps.refl _ _)) (GI.same _ _ _) ⟨rfl, hd.2.2⟩
    · exact hK _ _ (hC.lay (by decide) (Keeps.refl _ _)) (GI.same _ _ _) ⟨rfl, hd.1.2⟩
    · refine (done_any w' r gr [] false hd.2.1.2).mono ?_
      rintro e w'' ⟨rfl, rfl⟩
      exact ⟨_, rfl, hK _ _ (hC.lay (by decide) (Keeps.refl _ _)) (GI.same _ _ _) rfl⟩
    · refine (zig_any a HA.out w').mono ?_
      rintro e w'' ⟨rfl, rfl⟩
      exact ⟨_, rfl, hK _ _ (hC.lay (by decide) (Keeps.refl _ _)) (GI.same _ _ _) rfl⟩
    · refine (zig_any b HB.out w').mono ?_
      rintro e w'' ⟨rfl, rfl⟩
      exact ⟨_, rfl, hK _ _ (hC.lay (by decide) (Keeps.refl _ _)) (GI.same _ _ _) rfl⟩
    · refine hK _ _ (hC.lay (by decide) (Keeps.refl _ _)) (GI.same _ _ _) ?_
      rw [HGT.out]; rfl
    · refine (bytes_any w' p g la (HW6.out.keep hC.1 (by simpa using HRP.out.1) (by simpa using HRP.out.2.1)) (by have := HLEN.out; omega)).mono ?_
      rintro e w'' ⟨A, c, b', rfl, hb', hg', _, _, _, hk⟩
      exact ⟨_, rfl, hK _ _ (hC.lay (by decide) hk) (GI.of hk) ⟨A, c, b', rfl, hb', by have := HR6.out.lt; have := hC.1.size; omega⟩⟩
    · obtain ⟨⟨A, c, b', hv, hb', _⟩, _⟩ := hd
      rw [hv]
      go_simp
      exact hK _ _ (hC.lay (by decide) (Keeps.refl _ _)) (GI.same _ _ _) rfl
    · refine (bytes_any w' q h lb (HV6.out.keep hC.1 (by simpa using HRP.out.2.2.1) (by simpa using HRP.out.2.2.2.1)) (by have := HLEN.out; omega)).mono ?_
      rintro e w'' ⟨A, c, b', rfl, hb', hg', _, _, _, hk⟩
      exact ⟨_, rfl, hK _ _ (hC.lay (by decide) hk) (GI.of hk) ⟨A, c, b', rfl, hb', by have := HR6.out.lt; have := hC.1.size; omega⟩⟩
    · obtain ⟨⟨A, c, b', hv, hb', _⟩, _⟩ := hd
      rw [hv]
      go_simp
      exact hK _ _ (hC.lay (by decide) (Keeps.refl _ _)) (GI.same _ _ _) rfl
  case hend =>
    intro vs w' hC hall
    simp only [Reg.All, Is, and_true, Nat.zero_add, Nat.reduceAdd] at hall
    have h46 : vs 46 = Value.bool true := by simp only [hall]
    have HCK := Lib.hid hC.1
    clear hall hC
    go_wp2
    go_ret
    refine ⟨by simp [h46], ?_⟩
    have s0 := HK0.out.size; have s1 := HK1.out.size; have s2 := HK2.out.size; have s3 := HK3.out.size; have s4 := HK4.out.size; have s5 := HK5.out.size
    have hp := HP.out; have hq := HQ.out; have hr := HR.out
    have k2 : Keeps [] w w2 := (HK0.out.trans HK1.out (by simp)).trans HK2.out (by simp)
    have k3 : Keeps [] w w3 := k2.trans HK3.out (by intro i hi hl; simp at hi; omega)
    have k4 : Keeps [] w w4 := k3.trans HK4.out (by intro i hi hl; simp at hi; omega)
    have k6 : Keeps [] w w6 := (k4.trans HK5.out (by simp)).trans HK6.out (by simp)
    exact (k6.trans HCK.out (by intro i hi hl; simp at hi; omega)).below (B := w.heap.size) (by simp) (Nat.le_refl _)

set_option maxHeartbeats 2000000 in
set_option maxRecDepth 100000 in
theorem walk_gt (a b : Int) (w : World) (ha : Wide a) (hb : Wide b) (hz : M.zig b < M.zig a) :
    Calls Try.prog 6 #[.int .i64 a, .int .i64 b] w fun e w' => e = .returned (.bool true) ∧ Below w.heap.size w w' := by
  have HA := Lib.hid ha
  have HB := Lib.hid hb
  clear ha hb
  go_enter Try.func6, Try.ntmps6
  go_wp2_with fail
  refine (known_any w).mono ?_
  rintro e w0 ⟨rfl, hk0⟩
  have HK0 := Lib.hid hk0
  clear hk0
  go_wp2_with fail
  refine (newWriter_any w0).mono ?_
  rintro e w1 ⟨p, rfl, hp, hw1, hk1⟩
  have HP := Lib.hid hp
  have HW1 := Lib.hid hw1
  have HK1 := Lib.hid hk1
  clear hp hw1 hk1
  go_wp2_with fail
  refine (newWriter_any w1).mono ?_
  rintro e w2 ⟨q, rfl, hq, hv2, hk2⟩
  have HQ := Lib.hid hq
  have HW2 := Lib.hid (HW1.out.keep hk2 (by simp) (by simp))
  have HV2 := Lib.hid hv2
  have HK2 := Lib.hid hk2
  clear hq hv2 hk2
  go_wp2_with fail
  refine (int_one HW2.out HA.out (by simp)).mono ?_
  rintro e w3 ⟨rfl, g, hw3, hg, hk3⟩
  rw [List.nil_append] at hw3
  have hpq : p < q := by have := HW1.out.lt; have := HQ.out; omega
  have HV3 := Lib.hid (HV2.out.keep hk3 (by simp; omega) (by simp; omega))
  have HW3 := Lib.hid hw3
  have HK3 := Lib.hid hk3
  have HG := Lib.hid hg
  have HPQ := Lib.hid hpq
  clear hw3 hk3 hg hpq
  go_wp2_with fail
  refine (int_one HV3.out HB.out (by simp)).mono ?_
  rintro e w4 ⟨rfl, h, hv4, hh, hk4⟩
  rw [List.nil_append] at hv4
  have hgq : g ≠ q := by have := HG.out; have := HV2.out.lt; have := HPQ.out; omega
  have HW4 := Lib.hid (HW3.out.keep hk4 (by simp; have := HPQ.out; omega) (by simp; omega))
  have HV4 := Lib.hid hv4
  have HK4 := Lib.hid hk4
  have HH := Lib.hid hh
  clear hv4 hk4 hh hgq
  go_wp2_with fail
  refine (bytes_any w4 p g (encInt a) HW4.out (by have := encInt_len HA.out; omega)).mono ?_
  rintro e w5 ⟨A5, c5, b5, rfl, hb5, hg5, _, _, _, hk5⟩
  have HB5 := Lib.hid hb5
  have HK5 := Lib.hid hk5
  clear hb5 hg5 hk5
  go_wp2_with fail
  refine (newReader_any w5 b5 A5 (encInt a) c5 HB5.out (by have := encInt_len HA.out; omega)).mono ?_
  rintro e w6 ⟨r, gr, rfl, hr6, hr, hgr, hk6⟩
  have HW6 := Lib.hid ((HW4.out.keep HK5.out (by simp) (by simp)).keep hk6 (by simp) (by simp))
  have HV6 := Lib.hid ((HV4.out.keep HK5.out (by simp) (by simp)).keep hk6 (by simp) (by simp))
  have HR6 := Lib.hid hr6
  have HK6 := Lib.hid hk6
  have HR := Lib.hid hr
  have HGR := Lib.hid hgr
  clear hr6 hk6 hr hgr
  go_wp2_with fail

  obtain ⟨la, hla⟩ : ∃ la, la = encInt a := ⟨_, rfl⟩
  obtain ⟨lb, hlb⟩ : ∃ lb, lb = encInt b := ⟨_, rfl⟩
  rw [← hla] at HW6 HR6
  rw [← hlb] at HV6
  have hdl : M.dec 0 0 la = some (M.zig a, []) := by rw [hla]; exact dec_int HA.out
  have hlen : la.length ≤ 10 ∧ lb.length ≤ 10 := by rw [hla, hlb]; exact ⟨encInt_len HA.out, encInt_len HB.out⟩
  have hrp : p ≠ r ∧ g ≠ r ∧ q ≠ r ∧ h ≠ r ∧ gr ≠ r := by
    have h1 := HW4.out.lt; have h2 := HV4.out.lt; have h3 := HK5.out.size; have h4 := HR.out
    exact ⟨by omega, by omega, by omega, by omega, HR6.out.ne (by rw [hla]; exact M.enc_pos _)⟩
  have HDL := Lib.hid hdl
  have HLEN := Lib.hid hlen
  have HRP := Lib.hid hrp
  have hE : ∃ e : Bool, e = decide (a = b) := ⟨_, rfl⟩
  obtain ⟨e, he⟩ := hE
  have hab : (a == b) = e := by rw [he]; rfl
  have hab' : decide (a = b) = e := he.symm
  have HSTR := Lib.hid (show ((strOf la).toList == (strOf lb).toList) = e by
    rw [ByteArray.toList_eq, ByteArray.toList_eq, he, Bool.eq_iff_iff, beq_iff_eq, decide_eq_true_iff, hla, hlb]
    exact ⟨fun h => M.zig_inj (M.enc_inj (M.zig_lt HA.out.1 HA.out.2) (M.zig_lt HB.out.1 HB.out.2) h), fun h => by rw [h]⟩)
  have hLE : True := trivial
  have HLA := Lib.hid hla
  have HLB := Lib.hid hlb
  clear hla hlb hdl hlen hrp he
  refine Reg.wp_region_state (A := ?A) (CI w6 r gr la) (GI r gr)
    [Is (.pointer (some ⟨p, 0, none⟩)), Is (.pointer (some ⟨p, 0, none⟩)), Is (.pointer (some ⟨p, 0, none⟩)), CopyF r la, Is (.string (strOf la)),
     Is (.pointer (some ⟨q, 0, none⟩)), Is (.pointer (some ⟨q, 0, none⟩)), Is (.pointer (some ⟨q, 0, none⟩)), CopyF r lb, Is (.string (strOf lb)),
     Is (.bool e), Is (.int .i64 a), Is (.int .i64 b), Is (.bool e), Is (.bool true), Is (.bool true),
     Is (.pointer (some ⟨r, 0, none⟩)), Then r gr (.int .i64 a), Is (.int .i64 a), Then r gr (.bool true), Then r gr (.bool true), Then r gr (.bool true),
     Is (.pointer (some ⟨r, 0, none⟩)), Is (.int .i64 0), Is (.bool true), Is (.bool true), Is (.bool true),
     Is (.int .i64 a), Is (.int .u64 ((M.zig a : Nat) : Int)), Is (.int .i64 b), Is (.int .u64 ((M.zig b : Nat) : Int)), Is (.bool true), Is (.bool true),
     Is undef, Is undef, Is undef, Is undef, Is undef, Is undef, Is undef, Is undef, Is undef, Is undef, Is undef,
     Is (.bool true), Is (.bool true), Is (.bool true)]
    (by kernel_rfl) (by kernel_rfl) rfl ?hA ?hC ?ho ?hlast ?hend
  case hA => intro vs; simp only [Reg.fill, if_true, Nat.zero_add, Nat.reduceAdd, Act.put, List.setIfInBounds_toArray, List.set_cons_succ, List.set_cons_zero]; exact rfl
  case hC => exact ⟨(Keeps.refl _ _).drew, fun _ => HR6.out⟩
  case hlast => repeat (first | exact trivial | refine ⟨Is.lastI, ?_⟩ | refine ⟨CopyF.last, ?_⟩ | refine ⟨Then.last HRP.out.2.2.2.2, ?_⟩)
  case ho =>
    repeat' apply And.intro
    all_goals
      first
        | exact trivial
        | (intro L vs w' hC hL hd K hK
           try simp only [Reg.Deps, Reg.at_, List.getD_cons_zero, List.getD_cons_succ, Region.binds, true_implies, Is, Then, and_true] at hd
           go_simp
           first
             | exact hK _ _ (hC.lay (by decide) (Keeps.refl _ _)) (GI.same _ _ _) rfl
             | skip)
    · refine (bytes_any w' p g la (HW6.out.keep hC.1 (by simpa using HRP.out.1) (by simpa using HRP.out.2.1)) (by have := HLEN.out; omega)).mono ?_
      rintro e w'' ⟨A, c, b', rfl, hb', hg', _, _, _, hk⟩
      exact ⟨_, rfl, hK _ _ (hC.lay (by decide) hk) (GI.of hk) ⟨A, c, b', rfl, hb', by have := HR6.out.lt; have := hC.1.size; omega⟩⟩
    · obtain ⟨A, c, b', hv, hb', _⟩ := hd
      rw [hv, conv_text w' b' A la c hb']
      exact hK _ _ (hC.lay (by decide) (Keeps.refl _ _)) (GI.same _ _ _) rfl
    · refine (bytes_any w' q h lb (HV6.out.keep hC.1 (by simpa using HRP.out.2.2.1) (by simpa using HRP.out.2.2.2.1)) (by have := HLEN.out; omega)).mono ?_
      rintro e w'' ⟨A, c, b', rfl, hb', hg', _, _, _, hk⟩
      exact ⟨_, rfl, hK _ _ (hC.lay (by decide) hk) (GI.of hk) ⟨A, c, b', rfl, hb', by have := HR6.out.lt; have := hC.1.size; omega⟩⟩
    · obtain ⟨A, c, b', hv, hb', _⟩ := hd
      rw [hv, conv_text w' b' A lb c hb']
      exact hK _ _ (hC.lay (by decide) (Keeps.refl _ _)) (GI.same _ _ _) rfl
    · refine hK _ _ (hC.lay (by decide) (Keeps.refl _ _)) (GI.same _ _ _) ?_
      rw [HSTR.out]; rfl
    · refine (Int_gave w' r gr la [] _ (hC.2 hL) (fun w1 h => signed_ok h HDL.out)).mono ?_
      rintro e w'' ⟨rfl, hr'', hk⟩
      exact ⟨_, rfl, hK _ _ ⟨hC.1.trans hk (fun _ h _ => h), fun hl => by simp [Reg.lay] at hl⟩ ⟨hk, fun _ _ => hr''⟩ ⟨by rw [M.unzig_zig], hr''⟩⟩
    · exact hK _ _ (hC.lay (by decide) (Keeps.refl _ _)) (GI.same _ _ _) ⟨rfl, hd.1.2⟩
    · exact hK _ _ (hC.lay (by decide) (Keeps.refl _ _)) (GI.same _ _ _) ⟨rfl, hd.2.2⟩
    · exact hK _ _ (hC.lay (by decide) (Keeps.refl _ _)) (GI.same _ _ _) ⟨rfl, hd.1.2⟩
    · refine (done_any w' r gr [] false hd.2.1.2).mono ?_
      rintro e w'' ⟨rfl, rfl⟩
      exact ⟨_, rfl, hK _ _ (hC.lay (by decide) (Keeps.refl _ _)) (GI.same _ _ _) rfl⟩
    · refine (zig_any a HA.out w').mono ?_
      rintro e w'' ⟨rfl, rfl⟩
      exact ⟨_, rfl, hK _ _ (hC.lay (by decide) (Keeps.refl _ _)) (GI.same _ _ _) rfl⟩
    · refine (zig_any b HB.out w').mono ?_
      rintro e w'' ⟨rfl, rfl⟩
      exact ⟨_, rfl, hK _ _ (hC.lay (by decide) (Keeps.refl _ _)) (GI.same _ _ _) rfl⟩
  case hend =>
    intro vs w' hC hall
    simp only [Reg.All, Is, and_true, Nat.zero_add, Nat.reduceAdd] at hall
    have h46 : vs 46 = Value.bool true := by simp only [hall]
    have HCK := Lib.hid hC.1
    clear hall hC
    go_wp2
    go_ret
    refine ⟨by simp [h46], ?_⟩
    have s0 := HK0.out.size; have s1 := HK1.out.size; have s2 := HK2.out.size; have s3 := HK3.out.size; have s4 := HK4.out.size; have s5 := HK5.out.size
    have hp := HP.out; have hq := HQ.out; have hr := HR.out
    have k2 : Keeps [] w w2 := (HK0.out.trans HK1.out (by simp)).trans HK2.out (by simp)
    have k3 : Keeps [] w w3 := k2.trans HK3.out (by intro i hi hl; simp at hi; omega)
    have k4 : Keeps [] w w4 := k3.trans HK4.out (by intro i hi hl; simp at hi; omega)
    have k6 : Keeps [] w w6 := (k4.trans HK5.out (by simp)).trans HK6.out (by simp)
    exact (k6.trans HCK.out (by intro i hi hl; simp at hi; omega)).below (B := w.heap.size) (by simp) (Nat.le_refl _)
end Go.Proofs.Ytpjnckdekoooeaa.codeInts
