/- CodeTogether: for every numbers, integers, texts and truths: what one call writes of many is what is written one by one. No condition. -/
import Derived.Test.YtpjnckdekoooeaaCOpen
import Derived.Test.YtpjnckdekoooeaaCTogWalk
namespace Go.Proofs.Ytpjnckdekoooeaa.codeTogether
open Go.ChangeShapes Go.WideShapes Go.ChangeAt Go.RowKit

set_option maxHeartbeats 800000 in
theorem walk (w : World) (hba : Nat) (Aa : Option Addr) (capa : Nat) (ns : List Nat) (hbb : Nat) (Ab : Option Addr) (capb : Nat) (zs : List Int) (hbc : Nat) (Ac : Option Addr) (capc : Nat) (ss : List ByteArray) (hbd : Nat) (Ad : Option Addr) (capd : Nat) (bs : List Bool)
    (HRa : CellsIn w hba Aa (nums .u64 ns)) (HN : ∀ n ∈ ns, n < 18446744073709551616) (HRb : CellsIn w hbb Ab (ints zs)) (HZ : ∀ z ∈ zs, Wide z) (HRc : CellsIn w hbc Ac (texts ss)) (HS : ∀ s ∈ ss, s.size ≤ maxLen) (_hl : ss.length ≤ maxLen) (HRd : CellsIn w hbd Ad (bools bs)) :
    Calls Try.prog 8 #[.slice Aa ns.length capa, .slice Ab zs.length capb, .slice Ac ss.length capc, .slice Ad bs.length capd] w fun e w' => e = .returned (.bool true) ∧ Below w.heap.size w w' := by
  by_cases hl : (ns.length ≤ 20 ∧ zs.length ≤ 20) ∧ ss.length ≤ 20 ∧ bs.length ≤ 20
  · exact walk_light w hba hbb hbc hbd Aa Ab Ac Ad capa capb capc capd ns zs ss bs (Lib.hid HRa) (Lib.hid HRb) (Lib.hid HRc) (Lib.hid HRd) (Lib.hid HN) (Lib.hid HZ) (Lib.hid HS) hl.1.1 hl.1.2 hl.2.1 hl.2.2
  · clear HRa HRb HRc HRd HN HZ HS
    rcases (show 20 < ns.length ∨ (ns.length ≤ 20 ∧ 20 < zs.length) ∨ ((ns.length ≤ 20 ∧ zs.length ≤ 20) ∧ 20 < ss.length) ∨ ((ns.length ≤ 20 ∧ zs.length ≤ 20) ∧ ss.length ≤ 20 ∧ 20 < bs.length) by omega) with h | ⟨h1, h⟩ | ⟨⟨h1, h2⟩, h⟩ | ⟨⟨h1, h2⟩, h3, h⟩
    all_goals
      clear hl
      go_enter Try.func8, Try.ntmps8
      go_wp2_with fail
      refine (known_any w).mono ?_
      rintro e w0 ⟨rfl, hk0⟩
      have HK0 := Lib.hid hk0
      clear hk0
      go_wp2_with fail
      go_ret
      exact ⟨rfl, HK0.out.below (by simp) (Nat.le_refl _)⟩

set_option maxRecDepth 100000 in
theorem lifted (os : Os) (started : os.Started) (H : Type) (enc : TypeId × Value → H) :
    ReturnsInHanded {} Try.checked os 8 .any (Rows.codeTogetherSpec.pre6 enc Try.prog Try.f8 Rows.codeTogetherRow.domain false) (Rows.codeTogetherSpec.post enc Try.prog Try.f8 false true false false) := by
  refine returnsInHanded_of_change (C := Try.checked) own started (by kernel_rfl) Try.func8
    (ChangeSpec.witness6 (enc := enc) (C := Try.checked) false ⟨#[], #[.slice none 0 0, .slice none 0 0, .slice none 0 0, .slice none 0 0], []⟩ 8 (by kernel_rfl) (by kernel_rfl) (by kernel_rfl) (by kernel_rfl)) ?_
  intro W base args ds gs before hval0 hW _ _
  have hval : ∀ (j : Nat) t v, Try.f8.params[j]? = some t → args[j]? = some v → Value.okWide Try.prog W .any base t v := hval0
  have hW' := hW
  obtain ⟨p, q, hA0, hV, rfl, hfz, hnd⟩ := hW
  have hA : DataW.TrodAll enc Try.prog W 0 (fun _ => true) true Try.f8.params.toList args.toList ds p := hA0
  rw [Try.params8] at hA hval
  obtain ⟨v0, vs0, d0, ds0, p0, q0, hargs, rfl, rfl, h0, r0⟩ := trodAll_cons hA
  obtain ⟨v1, vs1, d1, ds1, p1, q1, rfl, rfl, rfl, h1, r1⟩ := trodAll_cons r0
  obtain ⟨v2, vs2, d2, ds2, p2, q2, rfl, rfl, rfl, h2, r2⟩ := trodAll_cons r1
  obtain ⟨v3, vs3, d3, ds3, p3, q3, rfl, rfl, rfl, h3, r3⟩ := trodAll_cons r2
  obtain ⟨rfl, rfl, rfl⟩ := trodAll_nil r3
  obtain rfl : args = #[v0, v1, v2, v3] := by cases args; simp_all
  obtain ⟨rfl, rfl⟩ := trodVars_none hV
  have hsl0 := okWide_slice Try.underlying73 (hval 0 73 v0 rfl rfl)
  have k0 := h0
  have lt0 : ∀ x ∈ p0, x.block < W.heap.size := by obtain ⟨m, hm⟩ := k0; exact DataW.trod_lt m _ _ _ hm
  obtain ⟨A0, ns0, cap0, g0, rfl, hr0, hn0⟩ := open_nums hsl0 h0
  have hsl1 := okWide_slice Try.underlying74 (hval 1 74 v1 rfl rfl)
  have k1 := h1
  have lt1 : ∀ x ∈ p1, x.block < W.heap.size := by obtain ⟨m, hm⟩ := k1; exact DataW.trod_lt m _ _ _ hm
  obtain ⟨A1, ns1, cap1, g1, rfl, hr1, hn1⟩ := open_zs hsl1 h1
  have hsl2 := okWide_slice Try.underlying47 (hval 2 47 v2 rfl rfl)
  have k2 := h2
  have lt2 : ∀ x ∈ p2, x.block < W.heap.size := by obtain ⟨m, hm⟩ := k2; exact DataW.trod_lt m _ _ _ hm
  obtain ⟨A2, ns2, cap2, g2, rfl, hr2, hn2, hl2⟩ := open_texts hsl2 h2
  have hsl3 := okWide_slice Try.underlying75 (hval 3 75 v3 rfl rfl)
  have k3 := h3
  have lt3 : ∀ x ∈ p3, x.block < W.heap.size := by obtain ⟨m, hm⟩ := k3; exact DataW.trod_lt m _ _ _ hm
  obtain ⟨A3, ns3, cap3, g3, rfl, hr3⟩ := open_bs hsl3 h3
  clear hA0 hval0
  refine (walk W g0 A0 cap0 ns0 g1 A1 cap1 ns1 g2 A2 cap2 ns2 g3 A3 cap3 ns3 hr0 hn0 hr1 hn1 hr2 hn2 hl2 hr3).mono fun e W' ⟨he, bel⟩ => ?_
  subst he
  exact ⟨_, rfl, _, _, _, [], _, [], hW', trodAll_mk1 (shut_bool Try.underlying4 _), (trodAll_cons_mk (Below.trod laidOut (by kernel_rfl) (of_decide_eq_true (by kernel_rfl)) k0 bel lt0) (trodAll_cons_mk (Below.trod laidOut (by kernel_rfl) (of_decide_eq_true (by kernel_rfl)) k1 bel lt1) (trodAll_cons_mk (Below.trod laidOut (by kernel_rfl) (of_decide_eq_true (by kernel_rfl)) k2 bel lt2) (trodAll_cons_mk (Below.trod laidOut (by kernel_rfl) (of_decide_eq_true (by kernel_rfl)) k3 bel lt3) trodAll_mk0)))), rfl, bel.frame _, fun h => by cases h⟩

/-- THE STATEMENT. -/
theorem proved : Rows.CodeTogetherSaid :=
  OpenClaim.holds_of_wide 8 Try.f8 rfl rfl rfl rfl rfl rfl rfl ⟨rfl, rfl, rfl, rfl, rfl⟩ rfl rfl rfl rfl rfl (by kernel_rfl) Try.func8 (by kernel_rfl)
    (of_decide_eq_true (by kernel_rfl)) (by unfold Func.isWrapper; first | (rw [if_pos (by decide +kernel)]; kernel_rfl) | (rw [if_neg (by decide +kernel)]; exact ⟨rfl, rfl⟩))
    (fun os started H enc _ => lifted os started H enc)
end Go.Proofs.Ytpjnckdekoooeaa.codeTogether
