/- Comparing summaries that are alike. -/
import Derived.Test.YtohmadfaaonaaaaCSumM
import Derived.Laws.StructEq
import Derived.Deep.QuietTactic
import Derived.BigQuiet
namespace Go.Proofs.Ytohmadfaaonaaaa
open Go.RowKit

theorem fieldsAl : (Try.prog.fieldsOf 66).toList = [{ name := "At", type := 3, offset := 0, embedded := false, tag := "", pkgPath := "", byteOffset := 0 }, { name := "Kind", type := 3, offset := 1, embedded := false, tag := "", pkgPath := "", byteOffset := 8 }] := by kernel_rfl
theorem same_al (a b : Int) (w : World) : (binOp .neq 66 (.agg #[.int .i64 a, .int .i64 b]) (.agg #[.int .i64 a, .int .i64 b])).run Try.prog w = .ok (.bool false) w := by
  rw [run_neq_struct, show (10000 : Nat) = 9998 + 1 + 1 from rfl, run_equalIn_agg w _ _ _ _ (by kernel_rfl) (by kernel_rfl), fieldsAl]
  have h1 : ∀ a, (Op.equalIn (9998 + 1) 3 (.int .i64 a) (.int .i64 a)).run Try.prog w = .ok true w := fun a => by rw [run_equalIn_int w _ _ .i64 .i64 a a Try.underlying3]; simp
  simp [Op.eqFields, go_sem, h1]
theorem fieldsIv : (Try.prog.fieldsOf 32).toList = [{ name := "Some", type := 4, offset := 0, embedded := false, tag := "", pkgPath := "", byteOffset := 0 }, { name := "Lo", type := 2, offset := 1, embedded := false, tag := "", pkgPath := "", byteOffset := 8 }, { name := "Hi", type := 2, offset := 2, embedded := false, tag := "", pkgPath := "", byteOffset := 16 }] := by kernel_rfl
theorem fieldsNm : (Try.prog.fieldsOf 87).toList = [{ name := "Name", type := 9, offset := 0, embedded := false, tag := "", pkgPath := "", byteOffset := 0 }, { name := "V", type := 32, offset := 1, embedded := false, tag := "", pkgPath := "", byteOffset := 16 }] := by kernel_rfl
theorem same_iv_in (d : Nat) (b : Bool) (x y : Int) (w : World) : (Op.equalIn (d + 1 + 1) 32 (.agg #[.bool b, .int .i64 x, .int .i64 y]) (.agg #[.bool b, .int .i64 x, .int .i64 y])).run Try.prog w = .ok true w := by
  rw [run_equalIn_agg w _ _ _ _ (by kernel_rfl) (by kernel_rfl), fieldsIv]
  have h1 : ∀ a, (Op.equalIn (d + 1) 2 (.int .i64 a) (.int .i64 a)).run Try.prog w = .ok true w := fun a => by rw [run_equalIn_int w _ _ .i64 .i64 a a Try.underlying2]; simp
  have h2 : (Op.equalIn (d + 1) 4 (.bool b) (.bool b)).run Try.prog w = .ok true w := by rw [run_equalIn_bool' w _ _ b b Try.underlying4]; simp
  simp [Op.eqFields, go_sem, h1, h2]
theorem same_iv (b : Bool) (x y : Int) (w : World) : (binOp .neq 32 (.agg #[.bool b, .int .i64 x, .int .i64 y]) (.agg #[.bool b, .int .i64 x, .int .i64 y])).run Try.prog w = .ok (.bool false) w := by
  rw [run_neq_struct, show (10000 : Nat) = 9998 + 1 + 1 from rfl, same_iv_in]
  rfl
theorem same_nm (s : ByteArray) (b : Bool) (x y : Int) (w : World) : (binOp .neq 87 (.agg #[.string s, .bool b, .int .i64 x, .int .i64 y]) (.agg #[.string s, .bool b, .int .i64 x, .int .i64 y])).run Try.prog w = .ok (.bool false) w := by
  rw [run_neq_struct, show (10000 : Nat) = 9999 + 1 from rfl, run_equalIn_agg w _ _ _ _ (by kernel_rfl) (by kernel_rfl), fieldsNm]
  have h1 : (Op.equalIn 9999 9 (.string s) (.string s)).run Try.prog w = .ok true w := by rw [show (9999 : Nat) = 9998 + 1 from rfl, run_equalIn_string w _ _ s s Try.underlying9]; simp
  have h2 : (Op.equalIn 9999 32 (.agg #[.bool b, .int .i64 x, .int .i64 y]) (.agg #[.bool b, .int .i64 x, .int .i64 y])).run Try.prog w = .ok true w := same_iv_in 9997 b x y w
  have h3 : Try.prog.cellsOf 32 = 3 := by kernel_rfl
  have h4 : Try.prog.cellsOf 9 = 1 := by kernel_rfl
  simp [Op.eqFields, go_sem, h1, h2, h3, h4]

theorem PB2.box1 (w : World) (cs cs' : Array Value) : ((w.alloc (.cells cs 35)).alloc (.cells cs' 35)).heap[w.heap.size]? = some (.cells cs 35 (0, 0)) :=
  block_keep (heap_alloc_new w _) ((Keeps.refl [] _).alloc _) (by simp)
theorem PB2.box2 (w : World) (cs cs' : Array Value) : ((w.alloc (.cells cs 35)).alloc (.cells cs' 35)).heap[w.heap.size + 1]? = some (.cells cs' 35 (0, 0)) := by
  have := heap_alloc_new (w.alloc (.cells cs 35)) (.cells cs' 35)
  have hs : (w.alloc (.cells cs 35)).heap.size = w.heap.size + 1 := by simp
  rw [hs] at this
  exact this
/-- It answers yes. -/
def Yes (w : World) (e : Ending) (w' : World) : Prop := e = .returned (.bool true) ∧ Keeps [] w w'
theorem Keeps.drewN {S : List Nat} {a w : World} (h : Keeps S a w) : ∀ (n : Nat), Keeps S a (w.drewN n)
  | 0 => h
  | n + 1 => (Keeps.drewN h n).drew

set_option maxHeartbeats 2000000 in
set_option maxRecDepth 100000 in
theorem alarms_same (w : World) (h1 h2 : Nat) (A1 A2 : Option Addr) (c1 c2 : Nat) (als : List Al) (r1 : AlsIn w h1 A1 als) (r2 : AlsIn w h2 A2 als) (hl : als.length ≤ 1000000) :
    Calls Try.prog 53 #[.slice A1 als.length c1, .slice A2 als.length c2] w (Yes w) := by
  have R1 := Lib.hid r1
  have R2 := Lib.hid r2
  clear r1 r2
  go_enter Try.func53, Try.ntmps53
  go_wp2_with fail
  go_loopw [5] (fun i wr => ∃ k : Nat, k ≤ als.length ∧ i = .int .i64 (k : Int) ∧ Keeps [] w wr) (fun i _ => als.length - (intOf i).toNat)
  case atStart => exact ⟨0, Nat.zero_le _, rfl, Keeps.refl _ _⟩
  case round =>
    obtain ⟨k, hk, rfl, hkp⟩ := hrel
    have HK := Lib.hid hkp
    clear hkp
    by_cases hlt : k < als.length
    · rcases R1.out with h0 | ⟨o1, rfl, hc1⟩
      · rw [h0] at hlt; simp at hlt
      · rcases R2.out with h0 | ⟨o2, rfl, hc2⟩
        · rw [h0] at hlt; simp at hlt
        · have a1 := hc1 k hlt
          have a2 := hc2 k hlt
          obtain ⟨⟨po, ki⟩, hm⟩ : ∃ m, m = als[k] := ⟨_, rfl⟩
          rw [← hm] at a1 a2
          have d1 := HK.out.cell_some a1.1 (by simp)
          have d2 := HK.out.cell_some a1.2 (by simp)
          have d3 := HK.out.cell_some a2.1 (by simp)
          have d4 := HK.out.cell_some a2.2 (by simp)
          have hne := same_al po ki
          simp only [] at d1 d2 d3 d4
          clear hc1 hc2 a1 a2 hm
          go_wp2_with fail
          go_quiet (fail)
          go_wp2_with fail
          go_roundw
          case rel => exact ⟨k + 1, by omega, by go_num, HK.out.drewN nq⟩
          case measure => simp [intOf]; omega
    · go_wp2_with fail
      go_ret
      exact ⟨rfl, HK.out⟩

set_option maxHeartbeats 4000000 in
set_option maxRecDepth 100000 in
theorem summary_same (w : World) (v1 v2 : Value) (s : Sm) (r1 : SmAt 0 w v1 s) (r2 : SmAt 0 w v2 s) (hl : s.alarms.length ≤ 1000000) (hm : s.mod.length ≤ 1000000) :
    Calls Try.prog 30 #[v1, v2] w (Yes w) := by
  obtain ⟨als, ends, ⟨rs, lo, hi⟩, ms⟩ := s
  obtain ⟨h1, h2, Aa, ca, Am, cm, rfl, al, nl, _, _⟩ := r1
  obtain ⟨h3, h4, Ab, cb, An, cn, rfl, bl, ol, _, _⟩ := r2
  simp only [] at al nl bl ol hl hm
  have RA := Lib.hid al
  have RB := Lib.hid bl
  have RM := Lib.hid nl
  have RN := Lib.hid ol
  have hk0 : Keeps [] w ((w.alloc (.cells #[.slice Aa als.length ca, .bool ends, .bool rs, .int .i64 lo, .int .i64 hi, .slice Am ms.length cm] 35)).alloc (.cells #[.slice Ab als.length cb, .bool ends, .bool rs, .int .i64 lo, .int .i64 hi, .slice An ms.length cn] 35)) := ((Keeps.refl [] w).alloc _).alloc _
  have HK0 := Lib.hid hk0
  have HB1 := Lib.hid (PB2.box1 w #[.slice Aa als.length ca, .bool ends, .bool rs, .int .i64 lo, .int .i64 hi, .slice Am ms.length cm] #[.slice Ab als.length cb, .bool ends, .bool rs, .int .i64 lo, .int .i64 hi, .slice An ms.length cn])
  have HB2 := Lib.hid (PB2.box2 w #[.slice Aa als.length ca, .bool ends, .bool rs, .int .i64 lo, .int .i64 hi, .slice Am ms.length cm] #[.slice Ab als.length cb, .bool ends, .bool rs, .int .i64 lo, .int .i64 hi, .slice An ms.length cn])
  have hiv := same_iv rs lo hi
  clear al nl bl ol hk0
  go_enter Try.func30, Try.ntmps30
  go_wp2_with fail
  refine (alarms_same _ h1 h3 Aa Ab ca cb als (RA.out.keep HK0.out (by simp)) (RB.out.keep HK0.out (by simp)) hl).mono ?_
  rintro e w1 ⟨rfl, hk1⟩
  have hb1 := block_keep HB1.out hk1 (by simp)
  have hb2 := block_keep HB2.out hk1 (by simp)
  have c5 : w1.cell? ⟨w.heap.size, 5, none⟩ = some (.slice Am ms.length cm) := row_cell hb1 5
  have d5 : w1.cell? ⟨w.heap.size + 1, 5, none⟩ = some (.slice An ms.length cn) := row_cell hb2 5
  have HK1 := Lib.hid (HK0.out.trans hk1 (by simp))
  have HC1 := Lib.hid hb1
  have HC2 := Lib.hid hb2
  clear hk1 hb1 hb2
  go_wp2_with fail
  go_loopw [5] (fun i wr => ∃ k : Nat, k ≤ ms.length ∧ i = .int .i64 (k : Int) ∧ Keeps [] w1 wr) (fun i _ => ms.length - (intOf i).toNat)
  case atStart => exact ⟨0, Nat.zero_le _, rfl, Keeps.refl _ _⟩
  case round =>
    obtain ⟨k, hk, rfl, hkp⟩ := hrel
    have HK := Lib.hid hkp
    have x5 := hkp.cell_some c5 (by simp)
    have y5 := hkp.cell_some d5 (by simp)
    clear hkp
    by_cases hlt : k < ms.length
    · rcases RM.out with h0 | ⟨o1, rfl, hc1⟩
      · rw [h0] at hlt; simp at hlt
      · rcases RN.out with h0 | ⟨o2, rfl, hc2⟩
        · rw [h0] at hlt; simp at hlt
        · have HKW := Lib.hid (HK1.out.trans HK.out (by simp))
          have a1 := hc1 k hlt
          have a2 := hc2 k hlt
          obtain ⟨⟨nm, ⟨sm, l0, u0⟩⟩, hmk⟩ : ∃ m, m = ms[k] := ⟨_, rfl⟩
          rw [← hmk] at a1 a2
          have e0 := HKW.out.cell_some a1.1 (by simp)
          have e1 := HKW.out.cell_some a1.2.1 (by simp)
          have e2 := HKW.out.cell_some a1.2.2.1 (by simp)
          have e3 := HKW.out.cell_some a1.2.2.2 (by simp)
          have g0 := HKW.out.cell_some a2.1 (by simp)
          have g1 := HKW.out.cell_some a2.2.1 (by simp)
          have g2 := HKW.out.cell_some a2.2.2.1 (by simp)
          have g3 := HKW.out.cell_some a2.2.2.2 (by simp)
          have hne := same_nm nm sm l0 u0
          simp only [] at e0 e1 e2 e3 g0 g1 g2 g3
          clear hc1 hc2 a1 a2 hmk c5 d5
          go_wp2_with fail
          go_quiet (fail)
          go_wp2_with fail
          go_roundw
          case rel => exact ⟨k + 1, by omega, by go_num, HK.out.drewN nq⟩
          case measure => simp [intOf]; omega
    · go_wp2_with fail
      go_ret
      exact ⟨rfl, HK1.out.trans HK.out (by simp)⟩
end Go.Proofs.Ytohmadfaaonaaaa
