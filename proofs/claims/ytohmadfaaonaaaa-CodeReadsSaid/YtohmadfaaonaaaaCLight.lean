/- Parts in memory; lightS, light. -/
import Derived.Test.YtohmadfaaonaaaaCPut
namespace Go.Proofs.Ytohmadfaaonaaaa
open Go.RowKit

/-- A part at the cells from off on in block h. -/
def PartAt (w : World) (h off : Nat) (p : Pt) : Prop := ∃ h1 h2 Aa ca Am cm,
  w.cell? ⟨h, off, none⟩ = some (.int .u8 (p.what : Int)) ∧ w.cell? ⟨h, off + 1, none⟩ = some (.int .u64 (p.n : Int)) ∧ w.cell? ⟨h, off + 2, none⟩ = some (.string p.t) ∧
  w.cell? ⟨h, off + 3, none⟩ = some (.slice Aa p.s.alarms.length ca) ∧ w.cell? ⟨h, off + 4, none⟩ = some (.bool p.s.ends) ∧ w.cell? ⟨h, off + 5, none⟩ = some (.bool p.s.ret.some) ∧
  w.cell? ⟨h, off + 6, none⟩ = some (.int .i64 p.s.ret.lo) ∧ w.cell? ⟨h, off + 7, none⟩ = some (.int .i64 p.s.ret.hi) ∧ w.cell? ⟨h, off + 8, none⟩ = some (.slice Am p.s.mod.length cm) ∧
  AlsIn w h1 Aa p.s.alarms ∧ NmsIn w h2 Am p.s.mod
theorem PartAt.keep {w w' : World} {h off : Nat} {p : Pt} (x : PartAt w h off p) (hk : Keeps [] w w') : PartAt w' h off p := by
  obtain ⟨h1, h2, Aa, ca, Am, cm, c0, c1, c2, c3, c4, c5, c6, c7, c8, a, m⟩ := x
  have k : ∀ {q : Addr} {v : Value}, w.cell? q = some v → w'.cell? q = some v := fun hq => hk.cell_some hq (by simp)
  exact ⟨h1, h2, Aa, ca, Am, cm, k c0, k c1, k c2, k c3, k c4, k c5, k c6, k c7, k c8, a.keep hk (by simp), m.keep hk (by simp)⟩
/-- What a reading gives of a part besides its cells. -/
def Pt.fits (p : Pt) : Prop := p.ok ∧ p.t.size ≤ maxLen ∧ p.s.alarms.length ≤ maxLen ∧ p.s.mod.length ≤ maxLen ∧ ∀ m ∈ p.s.mod, m.name.size ≤ maxLen
def PartsIn (w : World) (h : Nat) (A : Option Addr) (ps : List Pt) : Prop := ps = [] ∨ ∃ off, A = some ⟨h, off, none⟩ ∧ ∀ k (hk : k < ps.length), PartAt w h (off + k * 9) ps[k]
theorem PartsIn.keep {w w' : World} {h : Nat} {A : Option Addr} {ps : List Pt} (x : PartsIn w h A ps) (hk : Keeps [] w w') : PartsIn w' h A ps := by
  rcases x with x | ⟨off, hA, hc⟩
  · exact .inl x
  · exact .inr ⟨off, hA, fun k hl => (hc k hl).keep hk⟩


/-- It answers whether P. -/
def Tells (P : Prop) (w : World) (e : Ending) (w' : World) : Prop := ∃ b, e = .returned (.bool b) ∧ (b = true ↔ P) ∧ Keeps [] w w'
theorem Tells.yes {P : Prop} {w w' : World} (h : P) (hk : Keeps [] w w') : Tells P w (.returned (.bool true)) w' := ⟨true, rfl, ⟨fun _ => h, fun _ => rfl⟩, hk⟩
theorem Tells.no {P : Prop} {w w' : World} (h : ¬ P) (hk : Keeps [] w w') : Tells P w (.returned (.bool false)) w' := ⟨false, rfl, ⟨fun h => (by cases h), fun x => absurd x h⟩, hk⟩
/-! ### lightS -/
set_option maxHeartbeats 1000000 in
set_option maxRecDepth 100000 in
/-- The loop over the names: it answers whether all are short. -/
theorem lightS_any (w : World) (h2 : Nat) (Aa Am : Option Addr) (ca cm : Nat) (s : Sm) (hr : NmsIn w h2 Am s.mod) (la : s.alarms.length ≤ maxLen) (lm : s.mod.length ≤ maxLen) (ls : ∀ m ∈ s.mod, m.name.size ≤ maxLen) :
    Calls Try.prog 37 #[.agg #[.slice Aa s.alarms.length ca, .bool s.ends, .bool s.ret.some, .int .i64 s.ret.lo, .int .i64 s.ret.hi, .slice Am s.mod.length cm]] w (Tells s.light w) := by
  unfold maxLen at la lm
  have HR := Lib.hid hr
  have HS := Lib.hid ls
  have HK := Lib.hid ((Keeps.refl [] w).alloc (.cells #[.slice Aa s.alarms.length ca, .bool s.ends, .bool s.ret.some, .int .i64 s.ret.lo, .int .i64 s.ret.hi, .slice Am s.mod.length cm] 35))
  clear hr ls
  by_cases ha : s.alarms.length ≤ 10
  · by_cases hm : s.mod.length ≤ 10
    · go_enter Try.func37, Try.ntmps37
      go_wp2
      go_loop [3] (fun i => ∃ k : Nat, k ≤ s.mod.length ∧ i = .int .i64 k ∧ ∀ m ∈ s.mod.take k, m.name.size ≤ 50) (fun i => s.mod.length - (intOf i).toNat)
      case atStart => exact ⟨0, Nat.zero_le _, rfl, by simp⟩
      case round =>
        obtain ⟨k, hk, rfl, hall⟩ := hrel
        have HALL := Lib.hid hall
        clear hall
        by_cases hlt : k < s.mod.length
        · rcases HR.out with h0 | ⟨off, rfl, hcell⟩
          · rw [h0] at hlt; simp at hlt
          · have hc := (hcell k hlt).1
            have hsz := HS.out _ (List.getElem_mem hlt)
            have HTK := Lib.hid (List.take_succ_eq_append_getElem hlt)
            have HMEM := Lib.hid (List.getElem_mem hlt)
            obtain ⟨m, hmk⟩ : ∃ m, m = s.mod[k] := ⟨_, rfl⟩
            rw [← hmk] at hc hsz HTK HMEM
            have hcw := HK.out.cell_some hc (by simp)
            unfold maxLen at hsz
            clear hc hcell hmk
            by_cases hsh : m.name.size ≤ 50
            · go_wp2
              go_round
              case rel =>
                refine ⟨k + 1, by omega, by go_num, ?_⟩
                rw [HTK.out]
                intro x hx
                rcases List.mem_append.1 hx with hx | hx
                · exact HALL.out x hx
                · obtain rfl : x = m := by simpa using hx
                  exact hsh
              case measure => simp [intOf]; omega
            · have hsh' : 50 < m.name.size := by omega
              have HNO := Lib.hid (show ¬ s.light from fun hli => hsh (hli.2.2 m HMEM.out))
              clear hsh
              go_wp2
              go_ret
              exact Tells.no HNO.out HK.out
        · have HYES := Lib.hid (show s.light from ⟨ha, hm, by have := HALL.out; rwa [List.take_of_length_le (by omega)] at this⟩)
          go_wp2
          go_ret
          exact Tells.yes HYES.out HK.out
    · have hm' : 10 < s.mod.length := by omega
      have HNO := Lib.hid (show ¬ s.light from fun hli => hm hli.2.1)
      clear hm
      go_enter Try.func37, Try.ntmps37
      go_wp2
      go_ret
      exact Tells.no HNO.out HK.out
  · have ha' : 10 < s.alarms.length := by omega
    have HNO := Lib.hid (show ¬ s.light from fun hli => ha hli.1)
    clear ha
    go_enter Try.func37, Try.ntmps37
    go_wp2
    go_ret
    exact Tells.no HNO.out HK.out

/-! ### light -/
def LightP (ps : List Pt) : Prop := ps.length ≤ 12 ∧ ∀ p ∈ ps, p.light
set_option maxHeartbeats 1000000 in
set_option maxRecDepth 100000 in
theorem light_any (w : World) (h : Nat) (A : Option Addr) (cap : Nat) (ps : List Pt) (hr : PartsIn w h A ps) (hl : ps.length ≤ maxLen) (hf : ∀ p ∈ ps, p.fits) :
    Calls Try.prog 10 #[.slice A ps.length cap] w (Tells (LightP ps) w) := by
  unfold maxLen at hl
  have HR := Lib.hid hr
  have HF := Lib.hid hf
  clear hr hf
  by_cases hn : ps.length ≤ 12
  · go_enter Try.func10, Try.ntmps10
    go_wp2
    go_loopw [3] (fun i wr => ∃ k : Nat, k ≤ ps.length ∧ i = .int .i64 k ∧ (∀ p ∈ ps.take k, p.light) ∧ Keeps [] w wr) (fun i _ => ps.length - (intOf i).toNat)
    case atStart => exact ⟨0, Nat.zero_le _, rfl, by simp, Keeps.refl _ _⟩
    case round =>
      obtain ⟨k, hk, rfl, hall, hkp⟩ := hrel
      have HALL := Lib.hid hall
      have HK := Lib.hid hkp
      clear hall hkp
      by_cases hlt : k < ps.length
      · rcases HR.out with h0 | ⟨off, rfl, hcell⟩
        · rw [h0] at hlt; simp at hlt
        · have hc := (hcell k hlt).keep HK.out
          have hfk := HF.out _ (List.getElem_mem hlt)
          have HTK := Lib.hid (List.take_succ_eq_append_getElem hlt)
          have HMEM := Lib.hid (List.getElem_mem hlt)
          obtain ⟨p, hp⟩ : ∃ p, p = ps[k] := ⟨_, rfl⟩
          rw [← hp] at hc hfk HTK HMEM
          obtain ⟨h1, h2, Aa, ca, Am, cm, c0, c1, c2, c3, c4, c5, c6, c7, c8, a, m⟩ := hc
          obtain ⟨f1, f2, f3, f4, f5⟩ := hfk
          have HM := Lib.hid m
          have HF3 := Lib.hid f3
          have HF4 := Lib.hid f4
          have HF5 := Lib.hid f5
          unfold maxLen at f2
          clear hcell hp a m f1 f3 f4 f5
          by_cases ht : p.t.size ≤ 100
          · go_wp2_with fail
            refine (lightS_any wr h2 Aa Am ca cm p.s HM.out HF3.out HF4.out HF5.out).mono ?_
            rintro e w2 ⟨b, rfl, hb, hk2⟩
            have HK2 := Lib.hid (HK.out.trans hk2 (by simp))
            clear hk2
            cases b with
            | true =>
              have HB := Lib.hid (hb.1 rfl)
              clear hb
              go_wp2_with fail
              go_roundw
              case rel =>
                refine ⟨k + 1, by omega, by go_num, ?_, HK2.out⟩
                rw [HTK.out]
                intro x hx
                rcases List.mem_append.1 hx with hx | hx
                · exact HALL.out x hx
                · obtain rfl : x = p := by simpa using hx
                  exact ⟨ht, HB.out⟩
              case measure => simp [intOf]; omega
            | false =>
              have HNO := Lib.hid (show ¬ LightP ps from fun hli => by have := hb.2 (hli.2 p HMEM.out).2; cases this)
              clear hb
              go_wp2_with fail
              go_ret
              exact Tells.no HNO.out HK2.out
          · have ht' : 100 < p.t.size := by omega
            have HNO := Lib.hid (show ¬ LightP ps from fun hli => ht (hli.2 p HMEM.out).1)
            clear ht
            go_wp2
            go_ret
            exact Tells.no HNO.out HK.out
      · have HYES := Lib.hid (show LightP ps from ⟨hn, by have := HALL.out; rwa [List.take_of_length_le (by omega)] at this⟩)
        go_wp2
        go_ret
        exact Tells.yes HYES.out HK.out
  · have hn' : 12 < ps.length := by omega
    have HNO := Lib.hid (show ¬ LightP ps from fun hli => hn hli.1)
    clear hn
    go_enter Try.func10, Try.ntmps10
    go_wp2
    go_ret
    exact Tells.no HNO.out (Keeps.refl _ _)
end Go.Proofs.Ytohmadfaaonaaaa
