/- Two lists of tokens that are alike; the chapter's example. -/
import Derived.Test.YtieghhhiclpeiaaDoorLTok
import Derived.Laws.StructEq
import Derived.Deep.QuietTactic
import Derived.BigQuiet
namespace Go.Proofs.YtieghhhiclpeiaaDoor
open Go.RowKit Go.Shelf

theorem fieldsTok : (Tryd.prog.fieldsOf 34).toList = [{ name := "Kind", type := 3, offset := 0, embedded := false, tag := "", pkgPath := "", byteOffset := 0 }, { name := "Text", type := 9, offset := 1, embedded := false, tag := "", pkgPath := "", byteOffset := 8 }, { name := "At", type := 3, offset := 2, embedded := false, tag := "", pkgPath := "", byteOffset := 24 }] := by kernel_rfl
theorem same_tok (a b : Int) (s : ByteArray) (w : World) : (binOp .neq 34 (.agg #[.int .i64 a, .string s, .int .i64 b]) (.agg #[.int .i64 a, .string s, .int .i64 b])).run Tryd.prog w = .ok (.bool false) w := by
  rw [run_neq_struct, show (10000 : Nat) = 9998 + 1 + 1 from rfl, run_equalIn_agg w _ _ _ _ (by kernel_rfl) (by kernel_rfl), fieldsTok]
  simp [Op.eqFields, go_sem]
/-- It answers yes. -/
def Yes (w : World) (e : Ending) (w' : World) : Prop := e = .returned (.bool true) ∧ Keeps [] w w'
set_option maxHeartbeats 2000000 in
set_option maxRecDepth 100000 in
theorem toks_same (w : World) (h1 h2 : Nat) (A1 A2 : Option Addr) (c1 c2 : Nat) (ts : List Lx.Tok) (r1 : ToksIn w h1 A1 ts) (r2 : ToksIn w h2 A2 ts) (hl : ts.length ≤ 1000000) :
    Calls Tryd.prog 11 #[.slice A1 ts.length c1, .slice A2 ts.length c2] w (Yes w) := by
  have R1 := Lib.hid r1
  have R2 := Lib.hid r2
  clear r1 r2
  go_enter Tryd.func11, Tryd.ntmps11
  go_wp2_with fail
  go_loopw [5] (fun i wr => ∃ k : Nat, k ≤ ts.length ∧ i = .int .i64 (k : Int) ∧ Keeps [] w wr) (fun i _ => ts.length - (intOf i).toNat)
  case atStart => exact ⟨0, Nat.zero_le _, rfl, Keeps.refl _ _⟩
  case round =>
    obtain ⟨k, hk, rfl, hkp⟩ := hrel
    have HK := Lib.hid hkp
    clear hkp
    by_cases hlt : k < ts.length
    · rcases R1.out with h0 | ⟨o1, rfl, hc1⟩
      · rw [h0] at hlt; simp at hlt
      · rcases R2.out with h0 | ⟨o2, rfl, hc2⟩
        · rw [h0] at hlt; simp at hlt
        · have a1 := hc1 k hlt
          have a2 := hc2 k hlt
          obtain ⟨⟨kd, tx, po⟩, hm⟩ : ∃ m, m = ts[k] := ⟨_, rfl⟩
          rw [← hm] at a1 a2
          have d1 := HK.out.cell_some a1.1 (by simp)
          have d2 := HK.out.cell_some a1.2.1 (by simp)
          have d3 := HK.out.cell_some a1.2.2 (by simp)
          have d4 := HK.out.cell_some a2.1 (by simp)
          have d5 := HK.out.cell_some a2.2.1 (by simp)
          have d6 := HK.out.cell_some a2.2.2 (by simp)
          simp only [] at d1 d2 d3 d4 d5 d6
          obtain ⟨s, hs⟩ : ∃ s, s = strO tx := ⟨_, rfl⟩
          obtain ⟨ka, hka⟩ : ∃ x : Int, x = ((kd : Nat) : Int) := ⟨_, rfl⟩
          obtain ⟨pa, hpa⟩ : ∃ x : Int, x = ((po : Nat) : Int) := ⟨_, rfl⟩
          rw [← hka] at d1 d4
          rw [← hs] at d2 d5
          rw [← hpa] at d3 d6
          have hne := same_tok ka pa s
          clear hc1 hc2 a1 a2 hm hs hka hpa
          go_wp2_with fail
          go_quiet (fail)
          go_wp2_with fail
          go_roundw
          case rel => exact ⟨k + 1, by omega, by go_num, HK.out.drewN nq⟩
          case measure => simp [intOf]; omega
    · go_wp2_with fail
      go_ret
      exact ⟨rfl, HK.out⟩

theorem toks_a : Lx.toks [97, 60, 61, 98, 32, 35, 32, 99] = ⟨[⟨0, [97], 0⟩, ⟨2, [60, 61], 1⟩, ⟨0, [98], 3⟩], 0, 0⟩ := by
  unfold Lx.toks
  rw [if_neg (by decide)]
  rw [Lx.scan_step (p := [97]) (m := 1) (k := some 0) (by decide) (by decide) (by decide) (by decide)]
  rw [Lx.scan_step (p := [60, 61]) (m := 2) (k := some 2) (by decide) (by decide) (by decide) (by decide)]
  rw [Lx.scan_step (p := [98]) (m := 1) (k := some 0) (by decide) (by decide) (by decide) (by decide)]
  rw [Lx.scan_step (p := [32]) (m := 1) (k := none) (by decide) (by decide) (by decide) (by decide)]
  rw [Lx.scan_step (p := [35, 32, 99]) (m := 3) (k := none) (by decide) (by decide) (by decide) (by decide)]
  rw [Lx.scan_end (by decide)]
  rfl
theorem toks_b : Lx.toks [97, 32, 36] = ⟨[], 2, 50⟩ := by
  unfold Lx.toks
  rw [if_neg (by decide)]
  rw [Lx.scan_step (p := [97]) (m := 1) (k := some 0) (by decide) (by decide) (by decide) (by decide)]
  rw [Lx.scan_step (p := [32]) (m := 1) (k := none) (by decide) (by decide) (by decide) (by decide)]
  rw [Lx.scan_err (p := [36]) (m := 1) (k := none) (e := 50) (by decide) (by decide) (by decide) (by decide) (by decide)]
set_option maxHeartbeats 2000000 in
set_option maxRecDepth 100000 in
theorem known_any (w : World) (he : ErrAt w) :
    Calls Tryd.prog 8 #[] w (Yes w) := by
  have HE := Lib.hid he
  have H1 := Lib.hid (tokens_any w [97, 60, 61, 98, 32, 35, 32, 99] (by decide) he)
  rw [toks_a] at H1
  clear he
  go_enter Tryd.func8, Tryd.ntmps8
  go_wp2_with fail
  refine (H1.out).mono ?_
  rintro e w1 ⟨A, c, g, rfl, hti, _, hk1⟩
  rcases hti with h | ⟨off, rfl, hc⟩
  · cases h
  have a1 := (hc 1 (by decide)).2.1
  have a2 := (hc 2 (by decide)).2.2
  have H2 := Lib.hid (tokens_any w1 [97, 32, 36] (by decide) (HE.out.keep hk1))
  rw [toks_b] at H2
  have HK1 := Lib.hid hk1
  have A1 := Lib.hid a1
  have A2 := Lib.hid a2
  clear hc hk1 H1 a1 a2
  go_wp2_with fail
  refine (H2.out).mono ?_
  rintro e w2 ⟨A', c', g', rfl, _, _, hk2⟩
  have b1 : w2.cell? ⟨g, off + 3 + 1, none⟩ = some (.string ⟨#[60, 61]⟩) := hk2.cell_some A1.out (by simp)
  have b2 : w2.cell? ⟨g, off + 6 + 2, none⟩ = some (.int .i64 3) := hk2.cell_some A2.out (by simp)
  have HK2 := Lib.hid (HK1.out.trans hk2 (by simp))
  clear hk2 H2
  go_wp2_with fail
  go_ret
  exact ⟨rfl, HK2.out⟩
end Go.Proofs.YtieghhhiclpeiaaDoor
