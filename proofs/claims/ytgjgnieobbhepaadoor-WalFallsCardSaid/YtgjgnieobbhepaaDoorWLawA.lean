/- The laws' helpers: batch and same. -/
import Derived.Test.YtgjgnieobbhepaaDoorWGood
namespace Go.Proofs.YtgjgnieobbhepaaDoor
open Go.RowKit
open Reg (Is Fact CB)

theorem U8At.putInt {w : World} {g : Nat} {l : List UInt8} (h : U8At w g l) (i : Nat) (z : Int) (h0 : 0 ≤ z) (h1 : z < 256) : ∃ l' : List UInt8, l'.length = l.length ∧ U8At (w.setCell ⟨g, i, none⟩ (.int .u8 z)) g l' :=
  ⟨l.set i (UInt8.ofNat z.toNat), by simp, h.put i _ _ (by rw [L.ofNat_toNat]; congr 1; omega)⟩
/-- What batch yields. -/
def BatchP (w : World) (n : Nat) (e : Ending) (w' : World) : Prop :=
  ∃ v rs, e = .returned v ∧ rs.length = n ∧ (∀ r ∈ rs, List.length r ≤ 255) ∧ RowsOwn w' w.heap.size v rs ∧ Keeps [] w w'
set_option maxRecDepth 100000 in
set_option maxHeartbeats 4000000 in
theorem batch_any (w : World) (g cap i : Nat) (A : Option Addr) (lens : List UInt8) (hr : BytesIn w g A lens) (hl : lens.length ≤ 1000) (hi : i ≤ 1000) :
    Calls Tryd.prog 15 #[.int .i64 (i : Int), .slice A lens.length cap] w (BatchP w lens.length) := by
  obtain ⟨iS, hS, hS0, hS1, hS2⟩ := info_parts infoSl
  obtain ⟨iU, hU, hU0, hU1, hU2⟩ := info_parts infoU8
  have HB := Lib.hid hr
  clear hr
  go_enter Tryd.func15, Tryd.ntmps15
  go_wp2_with fail
  go_loopw [5, 6] (fun rv kv wr => ∃ k done Ar cr, k ≤ lens.length ∧ kv = .int .i64 (k : Int) ∧ rv = .slice Ar done.length cr ∧ done.length = k ∧ (∀ r ∈ done, List.length r ≤ 255) ∧ RowsOwn wr w.heap.size rv done ∧ Keeps [] w wr) (fun _ kv _ => lens.length - (RowKit.intOf kv).toNat)
  case atStart => exact ⟨0, [], none, 0, by omega, rfl, rfl, rfl, by simp, RowsOwn.nil _ _, Keeps.refl _ _⟩
  case round =>
    obtain ⟨k, done, Ar, cr, hk, rfl, rfl, hdl, hle, ho, hkk⟩ := hrel
    obtain ⟨W0, hW0⟩ : ∃ W0, W0 = wr := ⟨_, rfl⟩
    subst hW0
    have HDL := Lib.hid hdl
    clear hdl
    have HO := Lib.hid ho
    have HK := Lib.hid hkk
    have HLE := Lib.hid hle
    clear ho hkk hle
    by_cases hlt : k < lens.length
    · rcases HB.out with h0 | ⟨off, rfl, hcell⟩
      · subst h0; simp at hlt
      · have hck := HK.out.cell_some (hcell k hlt) (by simp)
        obtain ⟨n, hn⟩ : ∃ n, n = (lens[k]).toNat := ⟨_, rfl⟩
        have hn8 : n < 256 := by rw [hn]; exact (lens[k]).toNat_lt
        rw [← hn] at hck
        clear hcell hn
        go_wp2_with (at_make; refine wpList_make_full _ rfl _ _ 34 rfl W0.heap.size 5 iU (.int .u8 0) 1 Tryd.underlying34 hU hU0 hU1 .i64 .i64 (n : Int) (n : Int) n rfl rfl rfl rfl (by rw [hU2]; omega) (by unfold maxLen; omega) (Nat.le_refl _) ?_)
        intro w1 ho1 hg1
        have hk1 : Keeps [] W0 w1 := (Keeps.of_grown hg1).mono (by simp)
        have hz1 := made_row ho1
        have HZ1 := Lib.hid hz1
        have HK1 := Lib.hid hk1
        clear ho1 hg1 hk1 hz1
        have ek : IntKind.i64.wrap ((k : Int) + 1) = (k : Int) + 1 := IntWalk.i64_in _ ⟨by omega, by omega⟩
        have e31 : IntKind.i64.wrap (31 * (i : Int)) = 31 * (i : Int) := IntWalk.i64_in _ ⟨by omega, by omega⟩
        have e7 : IntKind.i64.wrap (7 * (k : Int)) = 7 * (k : Int) := IntWalk.i64_in _ ⟨by omega, by omega⟩
        have es : IntKind.i64.wrap (31 * (i : Int) + 7 * (k : Int)) = 31 * (i : Int) + 7 * (k : Int) := IntWalk.i64_in _ ⟨by omega, by omega⟩
        go_wp2_with fail
        go_loopw [8] (fun jv wq => ∃ j : Nat, j ≤ n ∧ jv = .int .i64 (j : Int) ∧ (∃ b : List UInt8, b.length = n ∧ U8At wq W0.heap.size b) ∧ Keeps [] W0 wq) (fun jv _ => n - (RowKit.intOf jv).toNat)
        case atStart => exact ⟨0, by omega, rfl, ⟨_, by simp, HZ1.out⟩, HK1.out⟩
        case round =>
          obtain ⟨j, hj, rfl, ⟨b, hbn, hb⟩, hkq⟩ := hrel
          have HBN := Lib.hid hbn
          by_cases hjn : j < n
          · have ej : IntKind.i64.wrap ((j : Int) + 1) = (j : Int) + 1 := IntWalk.i64_in _ ⟨by omega, by omega⟩
            have et : IntKind.i64.wrap (31 * (i : Int) + 7 * (k : Int) + (j : Int)) = 31 * (i : Int) + 7 * (k : Int) + (j : Int) := IntWalk.i64_in _ ⟨by omega, by omega⟩
            have hz := row_free hb j
            obtain ⟨y, hc⟩ : ∃ y : Value, wr.cell? ⟨W0.heap.size, j, none⟩ = some y := ⟨_, hb.cell (i := j) (by omega)⟩
            have HU := Lib.hid hb
            have HKQ := Lib.hid hkq
            clear hb hkq hbn
            go_wp2_with fail
            go_roundw
            case rel =>
              refine ⟨j + 1, by omega, rfl, ?_, HKQ.out.setCell (by simp) _⟩
              rw [← HBN.out]
              exact HU.out.putInt j _ (by omega) (by omega)
            case measure => simp [RowKit.intOf]; omega
          · have HU := Lib.hid hb
            have HKQ := Lib.hid hkq
            have hjn' : j = n := by omega
            clear hb hkq hbn
            have ho2 := HO.out.keep HKQ.out (by simp)
            obtain ⟨xs, hxo, hxe⟩ := ho2
            have HXO := Lib.hid hxo
            have HXE := Lib.hid hxe
            have hs1 := HK.out.size
            have hs2 := HKQ.out.size
            have hs3 := block_lt HU.out
            have HEL := Lib.hid (show ElV wr (fun y => w.heap.size ≤ y ∧ (Value.slice Ar done.length cr).ownBlock ≠ some y) (.slice (some ⟨W0.heap.size, 0, none⟩) n n) b from ⟨_, W0.heap.size, n, by rw [HBN.out], HU.out.bytes, by rw [HBN.out]; exact Nat.le_refl _, by unfold maxLen; omega, .inr ⟨by omega, fun e => by
              obtain ⟨xs0, h0o, _⟩ := HO.out
              have := h0o.lt _ e
              omega⟩⟩)
            clear hxo hxe
            go_wp2_with (at_builtin; refine wpList_append_own_at _ rfl _ _ 28 rfl w.heap.size 34 iS (.slice none 0 0) 1 24 Tryd.underlying28 hS hS0 hS1 hS2 rfl (by decide) (.slice Ar done.length cr) done.length xs rfl (HXO.out.alloc _) ⟨wr.heap.size, 0, none⟩ 1 1 [.slice (some ⟨W0.heap.size, 0, none⟩) n n] rfl rfl ?d1 ?d2 ?d3 ?d4 ?d5 ?_)
            case d1 =>
              intro q u hj
              match q, hj with
              | 0, hj => 
                simp at hj
                subst hj
                rw [Addr.add_lit, row_cell (heap_alloc_new wr _)]; rfl
              | q + 1, hj => simp at hj
            case d2 => intro u hu; simp at hu; rw [hu]; rfl
            case d3 => have := HDL.out; unfold maxLen; omega
            case d4 => have := HDL.out; omega
            case d5 => have := HDL.out; simp; omega
            intro v3 w3 ho3 hg3 _ hat3
            have HO3 := Lib.hid (show RowsOwn w3 w.heap.size v3 (done ++ [b]) by
              refine RowsOwn.more (w := wr.alloc (.cells #[.slice (some ⟨W0.heap.size, 0, none⟩) n n] 34)) (v := .slice Ar done.length cr) (xs := xs) (ys := [.slice (some ⟨W0.heap.size, 0, none⟩) n n]) (by simpa using HXO.out.alloc _) (fun q hq => ?_) (fun q hq => ?_) (by simpa using ho3) hg3 (by simpa using hat3)
              · obtain ⟨x, q1, q2⟩ := HXE.out q hq
                exact ⟨x, q1, q2.keep ((Keeps.refl [] _).alloc _) (by simp) (fun _ h => h)⟩
              · match q, hq with
                | 0, _ => exact ⟨_, rfl, HEL.out.keep ((Keeps.refl [] _).alloc _) (by simp) (fun _ h => h)⟩)
            have HK3 := Lib.hid (show Keeps [] w w3 from ((HK.out.trans HKQ.out (by simp)).alloc _).trans (Keeps.of_grown hg3) (fun q hq hl => by
              have h9 : (Value.slice Ar done.length cr).ownBlock = some q := by
                cases hob : (Value.slice Ar done.length cr).ownBlock with
                | none => rw [hob] at hq; simp at hq
                | some r => rw [hob] at hq; simp at hq; rw [hq]
              have := HXO.out.lt q h9
              omega))
            obtain ⟨Ar3, cr3, hv3, _, _, _⟩ := HO3.out.form
            subst hv3
            have HLE3 := Lib.hid (show ∀ r ∈ done ++ [b], List.length r ≤ 255 from fun r hr => by
              rcases List.mem_append.1 hr with h | h
              · exact HLE.out r h
              · have : r = b := by simpa using h
                rw [this, HBN.out]; omega)
            clear ho3 hg3 hat3
            go_wp2_with fail
            go_roundw
            case rel => exact ⟨k + 1, done ++ [b], Ar3, cr3, by omega, by push_cast; rfl, rfl, by rw [List.length_append, HDL.out]; rfl, HLE3.out, HO3.out, HK3.out⟩
            case measure => simp [RowKit.intOf]; omega
    · have hkl : k = lens.length := by omega
      have HQ := Lib.hid (show BatchP w lens.length (.returned (.slice Ar done.length cr)) W0 from ⟨_, done, rfl, by rw [HDL.out, hkl], HLE.out, HO.out, HK.out⟩)
      clear hkl
      go_wp2_with fail
      go_ret
      exact HQ.out
end Go.Proofs.YtgjgnieobbhepaaDoor
