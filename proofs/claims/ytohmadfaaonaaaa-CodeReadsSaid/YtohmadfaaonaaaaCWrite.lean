/- The walks of the writer: Num, Int, Text, Bool. -/
import Derived.Test.YtohmadfaaonaaaaCOut
import Derived.Test.YtohmadfaaonaaaaCMath
import Derived.Maps.AppendAt
namespace Go.Proofs.Ytohmadfaaonaaaa
open Go.RowKit

/-- A slice of cells in block h that reads as vs: nothing is asked of an empty one. -/
def CellsIn (w : World) (h : Nat) (A : Option Addr) (vs : List Value) : Prop :=
  vs = [] ∨ ∃ off, A = some ⟨h, off, none⟩ ∧ ∀ k (hk : k < vs.length), w.cell? ⟨h, off + k, none⟩ = some vs[k]
theorem CellsIn.keep {S : List Nat} {w w' : World} {g : Nat} {A : Option Addr} {l : List Value} (h : CellsIn w g A l) (hk : Keeps S w w') (hn : g ∉ S) : CellsIn w' g A l := by
  rcases h with h | ⟨off, hA, hc⟩
  · exact .inl h
  · exact .inr ⟨off, hA, fun k hl => hk.cell_some (hc k hl) hn⟩

theorem own_slice {w : World} {base : Nat} {e : TypeId} {v : Value} {n : Nat} {xs : List Value} (h : w.ownsRow base e 1 v n xs) (hn : 0 < n) : ∃ g c, v = .slice (some ⟨g, 0, none⟩) n c := by
  rcases own_form h with ⟨_, h⟩ | ⟨g, c, h, _⟩
  · omega
  · exact ⟨g, c, h⟩
/-- Behind an append the writer's own cell is as it was. -/
theorem pushed_cell {wr wa w1 : World} {p : Nat} {v : Value} {n : Nat} {xs : List Value} (hb : wr.heap[p]? = some (.cells #[v] 42 (0, 0))) (hown : wr.ownsRow 0 5 1 v n xs) (ha : Keeps [] wr wa) (h2 : wa.grownBy w1 v.ownBlock) :
    v.ownBlock ≠ some p ∧ w1.heap[p]? = some (.cells #[v] 42 (0, 0)) ∧ Keeps v.ownBlock.toList wr w1 := by
  have hvp : v.ownBlock ≠ some p := by
    rcases hown.2 with ⟨rfl, _⟩ | ⟨g, cap, cur, rfl, _, hg, _⟩
    · simp [Value.ownBlock]
    · intro he
      obtain rfl : g = p := by simpa [Value.ownBlock] using he
      rw [hb] at hg
      simp at hg
  have hk1 : Keeps v.ownBlock.toList wr w1 := ha.mono (T := v.ownBlock.toList) (by simp) |>.trans (Keeps.of_grown h2) (fun _ h _ => h)
  exact ⟨hvp, block_keep hb hk1 (fun hm => hvp (by simpa using hm)), hk1⟩

/-- What an append to the writer's bytes and the store of it leave. -/
theorem WrAt.pushed {wr wa w1 : World} {p gk m : Nat} {L new : List UInt8} {v v' : Value} (hb : wr.heap[p]? = some (.cells #[v] 42 (0, 0))) (h0 : v.ownBlock = none ∨ v.ownBlock = some gk) (hgk : gk < wr.heap.size)
    (hown : wr.ownsRow 0 5 1 v L.length (u8s L)) (ha : Keeps [] wr wa) (hm : m = new.length)
    (h1 : w1.ownsRow 0 5 1 v' (L.length + m) (u8s L ++ u8s new)) (h2 : wa.grownBy w1 v.ownBlock) (h3 : v'.ownBlock = v.ownBlock ∨ v'.ownBlock = some wa.heap.size) :
    ∃ g', WrAt (w1.setCell ⟨p, 0, none⟩ v') p g' (L ++ new) ∧ (g' = gk ∨ wr.heap.size ≤ g') ∧ Keeps [p, gk] wr (w1.setCell ⟨p, 0, none⟩ v') := by
  have hp := block_lt hb
  obtain ⟨hvp, hb1, hk1⟩ := pushed_cell hb hown ha h2
  have hv'p : v'.ownBlock ≠ some p := by
    rcases h3 with h3 | h3 <;> rw [h3]
    · exact hvp
    · have := ha.size
      intro he
      have := Option.some.inj he
      omega
  have hsz := h2.size
  have hw := ha.size
  have hset : (w1.setCell ⟨p, 0, none⟩ v').heap.size = w1.heap.size := by simp [World.setCell]
  have hown' := ownsRow_setCell_other h1 (a := ⟨p, 0, none⟩) hv'p v'
  rw [← u8s_append, show L.length + m = (L ++ new).length by simp [hm]] at hown'
  have hks : Keeps [p, gk] wr (w1.setCell ⟨p, 0, none⟩ v') := (hk1.mono (T := [p, gk]) (fun i hi _ => by rcases h0 with h0 | h0 <;> rw [h0] at hi <;> simp_all)).setCell (by simp) _
  rcases h3 with h3 | h3
  · exact ⟨gk, ⟨v', one_setCell hb1, hown', by rw [h3]; exact h0, by omega⟩, .inl rfl, hks⟩
  · refine ⟨wa.heap.size, ⟨v', one_setCell hb1, hown', .inr h3, ?_⟩, .inr hw, hks⟩
    have := h1.lt _ h3
    omega

/-- What a method of the writer's leaves: it has written l in all. -/
def Wrote (w : World) (p g : Nat) (l : List UInt8) (e : Ending) (w' : World) : Prop :=
  e = .returned (.tuple #[]) ∧ ∃ g', WrAt w' p g' l ∧ (g' = g ∨ w.heap.size ≤ g') ∧ Keeps [p, g] w w'

def nums (k : IntKind) (ns : List Nat) : List Value := ns.map fun (n : Nat) => .int k (n : Int)
theorem nums_get {k : IntKind} {ns : List Nat} {j : Nat} (h : j < ns.length) : (nums k ns)[j]'(by simpa [nums] using h) = .int k ((ns[j] : Nat) : Int) := by simp [nums]
theorem flat_len : ∀ (ns : List Nat), (∀ n ∈ ns, n < 18446744073709551616) → (ns.flatMap M.enc).length ≤ 10 * ns.length
  | [], _ => by simp
  | n :: r, h => by
    have h1 := flat_len r (fun m hm => h m (by simp [hm]))
    have h2 := M.enc_len64 (h n (by simp))
    simp only [List.flatMap_cons, List.length_append, List.length_cons]
    omega
theorem enc_step {L l : List UInt8} {v : Nat} (h : l ++ M.enc v = L) (hv : ¬ v < 128) : (l ++ [UInt8.ofNat (v % 128 + 128)]) ++ M.enc (v / 128) = L := by
  rw [M.enc_big hv] at h
  simpa using h

set_option maxHeartbeats 1000000 in
set_option maxRecDepth 100000 in
theorem num_any (w : World) (p g h : Nat) (l : List UInt8) (A : Option Addr) (ns : List Nat) (cap : Nat) (hw : WrAt w p g l) (hr : CellsIn w h A (nums .u64 ns)) (hp : h ≠ p) (hg : h ≠ g)
    (hn : ∀ n ∈ ns, n < 18446744073709551616) (hl : l.length + 10 * ns.length ≤ 70368744177664) :
    Calls Try.prog 13 #[.pointer (some ⟨p, 0, none⟩), .slice A ns.length cap] w (Wrote w p g (l ++ ns.flatMap M.enc)) := by
  obtain ⟨i0, hi, hz0, hz1, hz2⟩ := info_parts infoU8
  have HR := Lib.hid hr
  have HN := Lib.hid hn
  have HW := Lib.hid hw
  clear hr hn hw
  go_enter Try.func13, Try.ntmps13
  go_wp2
  go_loopw [5, 8] (fun _ i wr => ∃ k gk : Nat, k ≤ ns.length ∧ i = .int .i64 k ∧ WrAt wr p gk (l ++ (ns.take k).flatMap M.enc) ∧ (gk = g ∨ w.heap.size ≤ gk) ∧ Keeps [p, g] w wr) (fun _ i _ => ns.length - (intOf i).toNat)
  case atStart => exact ⟨0, g, Nat.zero_le _, rfl, by simpa using HW.out, .inl rfl, Keeps.refl _ _⟩
  case round =>
    obtain ⟨k, gk, hk, rfl, hwk, hgk, hkeep⟩ := hrel
    have HK := Lib.hid hkeep
    have HWK := Lib.hid hwk
    have HGK := Lib.hid hgk
    clear hkeep hwk hgk
    by_cases hlt : k < ns.length
    · rcases HR.out with h0 | ⟨off, rfl, hcell⟩
      · have : ns = [] := by simpa [nums] using h0
        subst this; simp at hlt
      · have hc := hcell k (by simpa [nums] using hlt)
        rw [nums_get hlt] at hc
        obtain ⟨n, hn⟩ : ∃ n, n = ns[k] := ⟨_, rfl⟩
        rw [← hn] at hc
        have hcw := HK.out.cell_some hc (show h ∉ [p, g] by simp [hp, hg])
        have hn64 : n < 18446744073709551616 := by rw [hn]; exact HN.out _ (List.getElem_mem hlt)
        have HL : Hid ((l ++ (ns.take k).flatMap M.enc ++ M.enc n).length ≤ 70368744177664) := Lib.hid (by
          have h1 := flat_len (ns.take k) (fun m hm => HN.out m (List.mem_of_mem_take hm))
          have h2 := M.enc_len64 hn64
          simp only [List.length_append]
          simp only [List.length_take] at h1
          omega)
        have HE : Hid (l ++ (ns.take k).flatMap M.enc ++ M.enc n = l ++ (ns.take (k + 1)).flatMap M.enc) := Lib.hid (by
          rw [List.take_succ_eq_append_getElem hlt, hn]; simp only [List.flatMap_append, List.flatMap_cons, List.flatMap_nil, List.append_nil, List.append_assoc])
        have H64 := Lib.hid hn64
        clear hc hcell hn hn64
        obtain ⟨wo, rfl⟩ : ∃ wo : World, wo = wr := ⟨_, rfl⟩
        go_wp2
        go_loopw [5] (fun x w2 => ∃ (v' g2 : Nat) (l2 : List UInt8), x = .int .u64 (v' : Int) ∧ v' < 18446744073709551616 ∧ WrAt w2 p g2 l2 ∧ l2 ++ M.enc v' = l ++ (ns.take k).flatMap M.enc ++ M.enc n ∧ (g2 = g ∨ w.heap.size ≤ g2) ∧ Keeps [p, g] w w2) (fun x _ => (intOf x).toNat)
        case atStart => exact ⟨n, gk, _, rfl, H64.out, HWK.out, rfl, HGK.out, HK.out⟩
        case round =>
          obtain ⟨v', g2, l2, rfl, hv64, hw2, hl2, hg2, hk2⟩ := hrel
          have hlen : l2.length + (M.enc v').length ≤ 70368744177664 := by
            have := congrArg List.length hl2
            rw [List.length_append] at this
            have h2 := HL.out
            omega
          have hlp := M.enc_pos v'
          have hl2' : l2.length + 1 ≤ 140737488355328 := by omega
          have HW2 := Lib.hid hw2
          have HL2 := Lib.hid hl2
          have HG2 := Lib.hid hg2
          have HK2 := Lib.hid hk2
          obtain ⟨v, hb, hown, hvb, hg2s⟩ := HW2.out
          have hcp := cell_of_one hb
          have hfp := free_of_one hb
          have HB := Lib.hid hb
          have HO := Lib.hid hown
          have HVB := Lib.hid hvb
          clear hw2 hl2 hg2 hk2 hb hown hvb hlen hlp
          by_cases hbig : v' < 128
          · have HN' := Lib.hid (show [Value.int .u8 (v' : Int)] = u8s [UInt8.ofNat v'] by simp only [u8s, List.map_cons, List.map_nil]; rw [M.u8_toNat (by omega)])
            have HE' := Lib.hid (show l2 ++ [UInt8.ofNat v'] = l ++ (ns.take (k + 1)).flatMap M.enc by rw [← HE.out, ← HL2.out, M.enc_small hbig])
            go_wp2_with (at_builtin; refine wpList_append_own_at _ rfl _ _ 27 rfl 0 5 i0 (.int .u8 0) 1 1 Try.underlying27 hi hz0 hz1 hz2 rfl (by decide) v l2.length (u8s l2) rfl (HO.out.alloc _) ⟨wr.heap.size, 0, none⟩ 1 1 [.int .u8 (v' : Int)] rfl rfl (cell_one_new _ _ _) ?qa2 ?qa3 ?qa4 ?qa5 ?_)
            case qa2 => rw [HN'.out]; exact u8s_one _
            case qa3 => unfold maxLen; omega
            case qa4 => omega
            case qa5 => simp
            intro v1 w1 h1 h2 _ h3
            rw [HN'.out] at h1
            obtain ⟨g1, c1, rfl⟩ := own_slice h1 (by omega)
            obtain ⟨-, hb1, -⟩ := pushed_cell HB.out HO.out ((Keeps.refl [] wr).alloc _) h2
            have hcp1 := cell_of_one hb1
            have hfp1 := free_of_one hb1
            obtain ⟨g', hq1, hq2, hq3⟩ := WrAt.pushed HB.out HVB.out hg2s HO.out ((Keeps.refl [] wr).alloc _) rfl h1 h2 (by simpa using h3)
            have HQ1 := Lib.hid hq1
            have HQ2 := Lib.hid hq2
            have HQ3 := Lib.hid hq3
            clear h1 h2 h3 hq1 hq2 hq3 hb1
            go_wp2
            go_roundw
            case rel =>
              refine ⟨k + 1, g', by omega, by go_num, ?_, ?_, ?_⟩
              · rw [← HE'.out]; exact HQ1.out
              · have := HQ2.out; have := HG2.out; have := HK2.out.size; omega
              · refine HK2.out.trans HQ3.out (fun i hi hl => ?_)
                have := HG2.out
                simp only [List.mem_cons, List.not_mem_nil, or_false] at hi ⊢
                omega
            case measure => simp [intOf]; omega
          · have HN' := Lib.hid (show [Value.int .u8 (bits .or .u8 ((v' : Int) % 256) 128)] = u8s [UInt8.ofNat (v' % 128 + 128)] by simp only [u8s, List.map_cons, List.map_nil]; rw [M.u8_toNat (by omega), M.or_128])
            have HE' := Lib.hid (enc_step HL2.out hbig)
            go_wp2_with (at_builtin; refine wpList_append_own_at _ rfl _ _ 27 rfl 0 5 i0 (.int .u8 0) 1 1 Try.underlying27 hi hz0 hz1 hz2 rfl (by decide) v l2.length (u8s l2) rfl (HO.out.alloc _) ⟨wr.heap.size, 0, none⟩ 1 1 [.int .u8 (bits .or .u8 ((v' : Int) % 256) 128)] rfl rfl (cell_one_new _ _ _) ?qb2 ?qb3 ?qb4 ?qb5 ?_)
            case qb2 => rw [HN'.out]; exact u8s_one _
            case qb3 => unfold maxLen; omega
            case qb4 => omega
            case qb5 => simp
            intro v1 w1 h1 h2 _ h3
            rw [HN'.out] at h1
            obtain ⟨g1, c1, rfl⟩ := own_slice h1 (by omega)
            obtain ⟨-, hb1, -⟩ := pushed_cell HB.out HO.out ((Keeps.refl [] wr).alloc _) h2
            have hcp1 := cell_of_one hb1
            have hfp1 := free_of_one hb1
            obtain ⟨g', hq1, hq2, hq3⟩ := WrAt.pushed HB.out HVB.out hg2s HO.out ((Keeps.refl [] wr).alloc _) rfl h1 h2 (by simpa using h3)
            have HQ1 := Lib.hid hq1
            have HQ2 := Lib.hid hq2
            have HQ3 := Lib.hid hq3
            clear h1 h2 h3 hq1 hq2 hq3 hb1
            go_wp2
            go_roundw
            case rel =>
              refine ⟨v' / 128, g', _, by go_num, by omega, HQ1.out, HE'.out, ?_, ?_⟩
              · have := HQ2.out; have := HG2.out; have := HK2.out.size; omega
              · refine HK2.out.trans HQ3.out (fun i hi hl => ?_)
                have := HG2.out
                simp only [List.mem_cons, List.not_mem_nil, or_false] at hi ⊢
                omega
            case measure => simp [intOf]; omega
    · go_wp2
      go_end0
      refine ⟨rfl, gk, ?_, HGK.out, HK.out⟩
      have := HWK.out
      rwa [List.take_of_length_le (by omega)] at this
end Go.Proofs.Ytohmadfaaonaaaa
