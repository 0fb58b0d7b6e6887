/- CodeReads: for any bytes, any parts behind them and any calls: the code's reader answers as the document's, up to where they can't be read, and nothing behind it. No condition. -/
import Derived.Test.YtohmadfaaonaaaaCParts
import Derived.Test.YtohmadfaaonaaaaCReadsWalk
namespace Go.Proofs.Ytohmadfaaonaaaa.codeReads
open Go.ChangeShapes Go.WideShapes Go.ChangeAt Go.RowKit

def bytesOf (zs : List Int) : List UInt8 := zs.map fun z => UInt8.ofNat z.toNat
theorem byte_back {z : Int} (h : (Lit.int .u8 z).wf = true) : (((UInt8.ofNat z.toNat).toNat : Nat) : Int) = z := by
  have hb : 0 ≤ z ∧ z ≤ 255 := by
    simpa [Lit.wf, IntKind.min, IntKind.max, IntKind.bits, IntKind.signed] using h
  simp
  omega
theorem bytes_open {w : World} {A : Option Addr} {len : Nat} {zs : List Int} (hl : len ≤ zs.length) (hwf : ∀ n ∈ zs, (Lit.int .u8 n).wf = true) (hn : A = none → len = 0)
    (hc : ∀ a, A = some a → ∀ c, c < zs.length → w.cell? (a.add c) = some (.int .u8 (zs.getD c 0))) : ∃ g, BytesIn w g A (bytesOf (zs.take len)) := by
  by_cases h0 : len = 0
  · subst h0; exact ⟨0, .inl rfl⟩
  · rcases A with _ | ⟨b, off, spot⟩
    · exact absurd (hn rfl) h0
    · have hs : spot = none := by simpa [Addr.add] using World.cell?_spot (hc _ rfl 0 (by omega))
      subst hs
      refine ⟨b, .inr ⟨off, rfl, fun k hk => ?_⟩⟩
      have hk' : k < len := by simp [bytesOf] at hk; omega
      have hkz : k < zs.length := by omega
      have h1 := hc _ rfl k hkz
      have h2 : (⟨b, off, none⟩ : Addr).add k = ⟨b, off + k, none⟩ := by
        unfold Addr.add
        by_cases h : k = 0
        · subst h; simp
        · simp [h]
      rw [h2] at h1
      rw [h1]
      have h3 : (bytesOf (zs.take len))[k]'hk = UInt8.ofNat (zs[k]).toNat := by simp [bytesOf]
      rw [h3, byte_back (hwf _ (List.getElem_mem hkz))]
      simp [List.getD, hkz]
theorem bytesOf_length (zs : List Int) (len : Nat) (h : len ≤ zs.length) : (bytesOf (zs.take len)).length = len := by simp [bytesOf]; omega

/-- A slice of bytes that came in. -/
theorem open_bytes {H : Type} {enc : TypeId × Value → H} {W : World} {base : Nat} {held : Bool} {v : Value} {d : DataW H} {p : List MemPlace} (hv : ∃ a len cap, v = .slice a len cap) (h : DataW.Trod enc Try.prog W base (fun _ => true) held 27 v d p) :
    ∃ A l cap g, v = .slice A l.length cap ∧ BytesIn W g A l ∧ l.length ≤ maxLen ∧ l.length ≤ cap ∧ cap ≤ maxLen := by
  obtain ⟨a, len, cap, rfl⟩ := hv
  obtain ⟨fuel, hf⟩ := h
  rcases open_ints Try.underlying27 Try.underlying5 (by kernel_rfl) hf with ⟨hcs, _⟩ | ⟨x, l, c, zs, hcs, _, hl, hm, hz, _, hcell, hwz⟩
  · simp [Value.cells] at hcs
    obtain ⟨rfl, rfl, rfl⟩ := hcs
    exact ⟨none, [], 0, 0, rfl, .inl rfl, Nat.zero_le _, Nat.le_refl _, Nat.zero_le _⟩
  · simp [Value.cells] at hcs
    obtain ⟨rfl, rfl, rfl⟩ := hcs
    have hz' : zs.length = cap := by simpa using hz
    obtain ⟨g, hg⟩ := bytes_open (w := W) (A := some x) (len := len) (zs := zs) (by omega) hwz (fun h => by cases h) (fun a ha k hk => by cases ha; exact hcell k hk)
    refine ⟨some x, bytesOf (zs.take len), cap, g, by rw [bytesOf_length _ _ (by omega)], hg, ?_, ?_, hm⟩
    · rw [bytesOf_length _ _ (by omega)]; omega
    · rw [bytesOf_length _ _ (by omega)]; omega

set_option maxHeartbeats 800000 in
theorem walk (w : World) (h0 : Nat) (A0 : Option Addr) (cap0 : Nat) (bs : List UInt8) (hb : Nat) (A : Option Addr) (cap : Nat) (ps : List Pt) (hh : Nat) (Ah : Option Addr) (caph : Nat) (hs : List UInt8)
    (hr0 : BytesIn w h0 A0 bs) (hl0 : bs.length ≤ maxLen) (hc0 : bs.length ≤ cap0) (hm0 : cap0 ≤ maxLen) (hr : PartsIn w hb A ps) (hf : ∀ p ∈ ps, p.fits) (hlen : ps.length ≤ maxLen) (hrh : BytesIn w hh Ah hs) (hlh : hs.length ≤ maxLen) :
    Calls Try.prog 4 #[.slice A0 bs.length cap0, .slice A ps.length cap, .slice Ah hs.length caph] w fun e w' => e = .returned (.bool true) ∧ Below w.heap.size w w' := by
  by_cases h500 : bs.length ≤ 500
  · by_cases h30 : hs.length ≤ 30
    · by_cases hli : LightP ps
      · exact walk_light w h0 A0 cap0 bs hb A cap ps hh Ah caph hs hr0 hc0 hm0 hr hf hlen hli hrh h500 h30
      · have HR := Lib.hid hr
        have HF := Lib.hid hf
        have HLI := Lib.hid hli
        have HLEN := Lib.hid hlen
        have e500 : decide ((500 : Int) < (bs.length : Int)) = false := by simp; omega
        have e30 : decide ((30 : Int) < (hs.length : Int)) = false := by simp; omega
        have f500 : decide (500 < bs.length) = false := by simp; omega
        have f30 : decide (30 < hs.length) = false := by simp; omega
        clear hr hf hli hlen hr0 hrh hc0 hm0 hl0 hlh
        go_enter Try.func4, Try.ntmps4
        go_wp2_with fail
        refine (known_any w).mono ?_
        rintro e w0 ⟨rfl, hk0⟩
        have HK0 := Lib.hid hk0
        clear hk0
        go_wp2_with fail
        refine (light_any w0 hb A cap ps (HR.out.keep HK0.out) HLEN.out HF.out).mono ?_
        rintro e w1 ⟨b, rfl, hbl, hk1⟩
        have HK1 := Lib.hid (HK0.out.trans hk1 (by simp))
        cases b with
        | true => exact absurd (hbl.1 rfl) HLI.out
        | false =>
          clear hk1 hbl
          go_wp2_with fail
          go_ret
          exact ⟨rfl, HK1.out.below (by simp) (Nat.le_refl _)⟩
    · unfold maxLen at hlh hl0
      have e500 : decide ((500 : Int) < (bs.length : Int)) = false := by simp; omega
      have e30 : decide ((30 : Int) < (hs.length : Int)) = true := by simp; omega
      have f500 : decide (500 < bs.length) = false := by simp; omega
      have f30 : decide (30 < hs.length) = true := by simp; omega
      clear hr hf hlen hr0 hrh hc0 hm0
      go_enter Try.func4, Try.ntmps4
      go_wp2_with fail
      refine (known_any w).mono ?_
      rintro e w0 ⟨rfl, hk0⟩
      have HK0 := Lib.hid hk0
      clear hk0
      go_wp2_with fail
      go_ret
      exact ⟨rfl, HK0.out.below (by simp) (Nat.le_refl _)⟩
  · unfold maxLen at hl0
    have e500 : decide ((500 : Int) < (bs.length : Int)) = true := by simp; omega
    have f500 : decide (500 < bs.length) = true := by simp; omega
    clear hr hf hlen hr0 hrh hc0 hm0 hlh
    go_enter Try.func4, Try.ntmps4
    go_wp2_with fail
    refine (known_any w).mono ?_
    rintro e w0 ⟨rfl, hk0⟩
    have HK0 := Lib.hid hk0
    clear hk0
    go_wp2_with fail
    go_ret
    exact ⟨rfl, HK0.out.below (by simp) (Nat.le_refl _)⟩

set_option maxRecDepth 100000 in
theorem lifted (os : Os) (started : os.Started) (H : Type) (enc : TypeId × Value → H) :
    ReturnsInHanded {} Try.checked os 4 .any (Rows.codeReadsSpec.pre6 enc Try.prog Try.f4 Rows.codeReadsRow.domain false) (Rows.codeReadsSpec.post enc Try.prog Try.f4 false true false false) := by
  refine returnsInHanded_of_change (C := Try.checked) own started (by kernel_rfl) Try.func4
    (ChangeSpec.witness6 (enc := enc) (C := Try.checked) false ⟨#[], #[.slice none 0 0, .slice none 0 0, .slice none 0 0], []⟩ 8 (by kernel_rfl) (by kernel_rfl) (by kernel_rfl) (by kernel_rfl)) ?_
  intro W base args ds gs before hval0 hW _ _
  have hval : ∀ (j : Nat) t v, Try.f4.params[j]? = some t → args[j]? = some v → Value.okWide Try.prog W .any base t v := hval0
  have hW' := hW
  obtain ⟨p, q, hA0, hV, rfl, hfz, hnd⟩ := hW
  have hA : DataW.TrodAll enc Try.prog W 0 (fun _ => true) true Try.f4.params.toList args.toList ds p := hA0
  rw [Try.params4] at hA hval
  obtain ⟨v0, vs0, d0, ds0, p0, q0, hargs, rfl, rfl, h0, r0⟩ := trodAll_cons hA
  obtain ⟨v1, vs1, d1, ds1, p1, q1, rfl, rfl, rfl, h1, r1⟩ := trodAll_cons r0
  obtain ⟨v2, vs2, d2, ds2, p2, q2, rfl, rfl, rfl, h2, r2⟩ := trodAll_cons r1
  obtain ⟨rfl, rfl, rfl⟩ := trodAll_nil r2
  obtain rfl : args = #[v0, v1, v2] := by cases args; simp_all
  obtain ⟨rfl, rfl⟩ := trodVars_none hV
  have hsl0 := okWide_slice Try.underlying27 (hval 0 27 v0 rfl rfl)
  have k0 := h0
  have lt0 : ∀ x ∈ p0, x.block < W.heap.size := by obtain ⟨m, hm⟩ := k0; exact DataW.trod_lt m _ _ _ hm
  obtain ⟨A0, ns0, cap0, g0, rfl, hr0, hl0, hc0, hm0⟩ := open_bytes hsl0 h0
  have hsl1 := okWide_slice Try.underlying22 (hval 1 22 v1 rfl rfl)
  have k1 := h1
  have lt1 : ∀ x ∈ p1, x.block < W.heap.size := by obtain ⟨m, hm⟩ := k1; exact DataW.trod_lt m _ _ _ hm
  obtain ⟨A1, ns1, cap1, g1, rfl, hr1, hf1, hl1⟩ := open_parts hsl1 h1
  have hsl2 := okWide_slice Try.underlying27 (hval 2 27 v2 rfl rfl)
  have k2 := h2
  have lt2 : ∀ x ∈ p2, x.block < W.heap.size := by obtain ⟨m, hm⟩ := k2; exact DataW.trod_lt m _ _ _ hm
  obtain ⟨A2, ns2, cap2, g2, rfl, hr2, hl2, hc2, hm2⟩ := open_bytes hsl2 h2
  clear hA0 hval0
  refine (walk W g0 A0 cap0 ns0 g1 A1 cap1 ns1 g2 A2 cap2 ns2 hr0 hl0 hc0 hm0 hr1 hf1 hl1 hr2 hl2).mono fun e W' ⟨he, bel⟩ => ?_
  subst he
  exact ⟨_, rfl, _, _, _, [], _, [], hW', trodAll_mk1 (shut_bool Try.underlying4 _), (trodAll_cons_mk (Below.trod laidOut (by kernel_rfl) (of_decide_eq_true (by kernel_rfl)) k0 bel lt0) (trodAll_cons_mk (Below.trod laidOut (by kernel_rfl) (of_decide_eq_true (by kernel_rfl)) k1 bel lt1) (trodAll_cons_mk (Below.trod laidOut (by kernel_rfl) (of_decide_eq_true (by kernel_rfl)) k2 bel lt2) trodAll_mk0))), rfl, bel.frame _, fun h => by cases h⟩

/-- THE STATEMENT. -/
theorem proved : Rows.CodeReadsSaid :=
  OpenClaim.holds_of_wide 4 Try.f4 rfl rfl rfl rfl rfl rfl rfl ⟨rfl, rfl, rfl, rfl, rfl⟩ rfl rfl rfl rfl rfl (by kernel_rfl) Try.func4 (by kernel_rfl)
    (of_decide_eq_true (by kernel_rfl)) (by unfold Func.isWrapper; first | (rw [if_pos (by decide +kernel)]; kernel_rfl) | (rw [if_neg (by decide +kernel)]; exact ⟨rfl, rfl⟩))
    (fun os started H enc _ => lifted os started H enc)
end Go.Proofs.Ytohmadfaaonaaaa.codeReads
