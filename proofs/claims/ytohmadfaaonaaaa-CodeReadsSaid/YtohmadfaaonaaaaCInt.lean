/- The walks of the writer: Int, Text, Bool. -/
import Derived.Test.YtohmadfaaonaaaaCWrite
namespace Go.Proofs.Ytohmadfaaonaaaa
open Go.RowKit

def ints (zs : List Int) : List Value := zs.map fun z => .int .i64 z
theorem ints_get {zs : List Int} {j : Nat} (h : j < zs.length) : (ints zs)[j]'(by simpa [ints] using h) = .int .i64 zs[j] := by simp [ints]
def encInt (z : Int) : List UInt8 := M.enc (M.zig z)
def Wide (z : Int) : Prop := -9223372036854775808 ≤ z ∧ z ≤ 9223372036854775807
theorem encInt_len {z : Int} (h : Wide z) : (encInt z).length ≤ 10 := M.enc_len64 (M.zig_lt h.1 h.2)
theorem flat_ints_len : ∀ (zs : List Int), (∀ z ∈ zs, Wide z) → (zs.flatMap encInt).length ≤ 10 * zs.length
  | [], _ => by simp
  | n :: r, h => by
    have h1 := flat_ints_len r (fun m hm => h m (by simp [hm]))
    have h2 := encInt_len (h n (by simp))
    simp only [List.flatMap_cons, List.length_append, List.length_cons]
    omega
theorem flat_next {α : Type} (f : α → List UInt8) (l : List UInt8) {zs : List α} {k : Nat} (hlt : k < zs.length) : l ++ (zs.take k).flatMap f ++ f zs[k] = l ++ (zs.take (k + 1)).flatMap f := by
  rw [List.take_succ_eq_append_getElem hlt]; simp only [List.flatMap_append, List.flatMap_cons, List.flatMap_nil, List.append_nil, List.append_assoc]

/-- Num of one number in a new block. -/
theorem num_one {w : World} {p g : Nat} {l : List UInt8} {n : Nat} {v : Int} (hw : WrAt w p g l) (hv : v = (n : Int)) (hn : n < 18446744073709551616) (hl : l.length + 10 ≤ 70368744177664) :
    Calls Try.prog 13 #[.pointer (some ⟨p, 0, none⟩), .slice (some ⟨w.heap.size, 0, none⟩) 1 1] (w.alloc (.cells #[.int .u64 v] 29)) fun e w' =>
      e = .returned (.tuple #[]) ∧ ∃ g', WrAt w' p g' (l ++ M.enc n) ∧ (g' = g ∨ w.heap.size ≤ g') ∧ Keeps [p, g] w w' := by
  subst hv
  have hlt := hw.lt
  have hk := (Keeps.refl [] w).alloc (.cells #[.int .u64 (n : Int)] 29)
  refine (num_any _ p g w.heap.size l _ [n] 1 (hw.keep hk (by simp) (by simp)) (.inr ⟨0, rfl, fun k hk => ?_⟩) (by omega) (by omega) (by simpa using hn) (by simpa using hl)).mono ?_
  · have : k = 0 := by simpa [nums] using hk
    subst this
    simp [nums]
  · rintro e w' ⟨rfl, g', h1, h2, h3⟩
    refine ⟨rfl, g', by simpa using h1, ?_, ?_⟩
    · have := hk.size; omega
    · exact (hk.mono (by simp)).trans h3 (fun i hi _ => hi)

theorem next_rel {α : Type} {f : α → List UInt8} {w wr w' : World} {p g gk k : Nat} {l t : List UInt8} {ns : List α} (he : l ++ (ns.take k).flatMap f ++ t = l ++ (ns.take (k + 1)).flatMap f) (hlt : k < ns.length)
    (hgk : gk = g ∨ w.heap.size ≤ gk) (hk : Keeps [p, g] w wr) (hq : ∃ g', WrAt w' p g' (l ++ (ns.take k).flatMap f ++ t) ∧ (g' = gk ∨ wr.heap.size ≤ g') ∧ Keeps [p, gk] wr w') :
    ∃ k' gk' : Nat, k' ≤ ns.length ∧ Value.int .i64 ((k : Int) + 1) = .int .i64 k' ∧ WrAt w' p gk' (l ++ (ns.take k').flatMap f) ∧ (gk' = g ∨ w.heap.size ≤ gk') ∧ Keeps [p, g] w w' := by
  obtain ⟨g', h1, h2, h3⟩ := hq
  rw [he] at h1
  have := hk.size
  refine ⟨k + 1, g', hlt, by go_num, h1, by omega, hk.trans h3 (fun i hi hl => ?_)⟩
  simp only [List.mem_cons, List.not_mem_nil, or_false] at hi ⊢
  omega

set_option maxHeartbeats 1000000 in
set_option maxRecDepth 100000 in
theorem int_any (w : World) (p g h : Nat) (l : List UInt8) (A : Option Addr) (ns : List Int) (cap : Nat) (hw : WrAt w p g l) (hr : CellsIn w h A (ints ns)) (hp : h ≠ p) (hg : h ≠ g)
    (hn : ∀ n ∈ ns, Wide n) (hl : l.length + 10 * ns.length ≤ 70368744177664) :
    Calls Try.prog 14 #[.pointer (some ⟨p, 0, none⟩), .slice A ns.length cap] w (Wrote w p g (l ++ ns.flatMap encInt)) := by
  have HR := Lib.hid hr
  have HN := Lib.hid hn
  have HW := Lib.hid hw
  clear hr hn hw
  go_enter Try.func14, Try.ntmps14
  go_wp2
  go_loopw [5, 8] (fun _ i wr => ∃ k gk : Nat, k ≤ ns.length ∧ i = .int .i64 k ∧ WrAt wr p gk (l ++ (ns.take k).flatMap encInt) ∧ (gk = g ∨ w.heap.size ≤ gk) ∧ Keeps [p, g] w wr) (fun _ i _ => ns.length - (intOf i).toNat)
  case atStart => exact ⟨0, g, Nat.zero_le _, rfl, by simpa using HW.out, .inl rfl, Keeps.refl _ _⟩
  case round =>
    obtain ⟨k, gk, hk, rfl, hwk, hgk, hkeep⟩ := hrel
    have HK := Lib.hid hkeep
    have HWK := Lib.hid hwk
    have HGK := Lib.hid hgk
    clear hkeep hwk hgk
    by_cases hlt : k < ns.length
    · rcases HR.out with h0 | ⟨off, rfl, hcell⟩
      · have : ns = [] := by simpa [ints] using h0
        subst this; simp at hlt
      · have hc := hcell k (by simpa [ints] using hlt)
        rw [ints_get hlt] at hc
        have HE := Lib.hid (flat_next encInt l hlt)
        obtain ⟨n, hn⟩ : ∃ n, n = ns[k] := ⟨_, rfl⟩
        rw [← hn] at hc HE
        have hcw := HK.out.cell_some hc (show h ∉ [p, g] by simp [hp, hg])
        have hn64 : Wide n := by rw [hn]; exact HN.out _ (List.getElem_mem hlt)
        have HL : Hid ((l ++ (ns.take k).flatMap encInt).length + 10 ≤ 70368744177664) := Lib.hid (by
          have h1 := flat_ints_len (ns.take k) (fun m hm => HN.out m (List.mem_of_mem_take hm))
          simp only [List.length_append]
          simp only [List.length_take] at h1
          omega)
        obtain ⟨hb1, hb2⟩ := hn64
        clear hc hcell hn
        by_cases hneg : n < 0
        · go_wp2_with fail
          refine (num_one (n := M.zig n) HWK.out ?_ ?_ ?_).mono ?_
          · unfold M.zig; rw [if_pos hneg]; omega
          · exact M.zig_lt hb1 hb2
          · exact HL.out
          rintro e w' ⟨rfl, hq⟩
          have HQ := Lib.hid hq
          clear hq
          go_wp2
          go_roundw
          case rel => exact next_rel HE.out hlt HGK.out HK.out HQ.out
          case measure => simp [intOf]; omega
        · go_wp2_with fail
          refine (num_one (n := M.zig n) HWK.out ?_ ?_ ?_).mono ?_
          · unfold M.zig; rw [if_neg (by omega)]; omega
          · exact M.zig_lt hb1 hb2
          · exact HL.out
          rintro e w' ⟨rfl, hq⟩
          have HQ := Lib.hid hq
          clear hq
          go_wp2
          go_roundw
          case rel => exact next_rel HE.out hlt HGK.out HK.out HQ.out
          case measure => simp [intOf]; omega
    · go_wp2
      go_end0
      refine ⟨rfl, gk, ?_, HGK.out, HK.out⟩
      have := HWK.out
      rwa [List.take_of_length_le (by omega)] at this

/-! ### Text -/
def texts (ss : List ByteArray) : List Value := ss.map .string
theorem texts_get {ss : List ByteArray} {j : Nat} (h : j < ss.length) : (texts ss)[j]'(by simpa [texts] using h) = .string ss[j] := by simp [texts]
def encT (s : ByteArray) : List UInt8 := M.encText s.data.toList
theorem strCells_eq (s : ByteArray) : Lib.strCells s = u8s s.data.toList := rfl
theorem flat_take_len {α : Type} (f : α → List UInt8) (zs : List α) (k : Nat) : ((zs.take k).flatMap f).length ≤ (zs.flatMap f).length := by
  have h : zs.flatMap f = (zs.take k).flatMap f ++ (zs.drop k).flatMap f := by rw [← List.flatMap_append, List.take_append_drop]
  rw [h, List.length_append]; omega

/-- 'append(b, s...)' of a string: where the new row lies. -/
theorem run_append_text {P : Program} (w : World) (base : Nat) (t u ty e : TypeId) (i : TypeInfo) (ht : P.underlying t = some (.slice e)) (hu : P.underlying u = some .string) (hi : P.info? e = some i) (hz : i.zero = some (.int .u8 0))
    (hsize : i.size = 1) (hby : i.bytes = 1) (v : Value) (n : Nat) (xs : List Value) (hown : w.ownsRow base e 1 v n xs) (s : ByteArray) (hbytes : n + s.size ≤ 140737488355328) (hbase : base ≤ w.heap.size) :
    ∃ v' w', (Builtin.append_ #[t, u] ty #[v, .string s]).run P w = .ok v' w' ∧ w'.ownsRow base e 1 v' (n + s.size) (xs ++ u8s s.data.toList) ∧ w.grownBy w' v.ownBlock ∧ (v'.ownBlock = v.ownBlock ∨ v'.ownBlock = some w.heap.size) := by
  obtain ⟨v', w', hr, h2, h3, h4⟩ := Lib.run_append_own_string (P := P) w base t u ty e i ht hu hi hz hsize hby v n xs hown s (by unfold maxLen; omega) hbytes hbase
  refine ⟨v', w', hr, h2, h3, ?_⟩
  have hxl : xs.length = n := by simpa using hown.1
  rcases hown.2 with ⟨rfl, rfl⟩ | ⟨g, cap, cur, rfl, _, hg, hnc, hcm, hcs, _⟩
  · by_cases hm : s.size = 0
    · exact .inl (by rw [h4.2 ⟨rfl, hm⟩])
    · have hr' := run_append_nil_string (P := P) w t u ty e i (.int .u8 0) ht hu hi hz s (by omega) (by omega) (by rw [hby]; omega)
      rw [hr'] at hr
      injection hr with e1 _
      exact .inr (by rw [← e1]; rfl)
  · by_cases hroom : n + s.size ≤ cap
    · have hcs' : cur.size = cap := by simpa using hcs
      have hr' := Lib.run_append_room_string (P := P) w t u ty e i ht hu hi hsize g n cap cur hg s hroom (by omega)
      rw [hr'] at hr
      injection hr with e1 _
      exact .inl (by rw [← e1]; rfl)
    · have holds : ∀ j u, xs[j]? = some u → w.cell? ((⟨g, 0, none⟩ : Addr).add j) = some u := hown.cells (g := g) rfl
      have hr' := Lib.run_append_grow_string (P := P) w t u ty e i (.int .u8 0) ht hu hi hz ⟨g, 0, none⟩ n cap xs (by rw [hsize]; simpa using hxl) holds s (by omega) (by omega) (by rw [hby]; exact growslice_fits (by omega) (by omega))
      rw [hr'] at hr
      injection hr with e1 _
      exact .inr (by rw [← e1]; rfl)
theorem wpList_append_text {P : Program} (w : World) {ops : Array Oper} {rest : List Oper} {o : Oper} {a : Act} {Q : Exit → Act → World → Prop} (hgd : o.guard = none) (sl x : Operand) (t u : TypeId)
    (ho : o.op = .call { callee := .builtin .append, args := #[sl, x], argTypes := #[t, u] })
    (base : Nat) (e : TypeId) (i : TypeInfo) (ht : P.underlying t = some (.slice e)) (hu : P.underlying u = some .string) (hi : P.info? e = some i) (hz : i.zero = some (.int .u8 0))
    (hsize : i.size = 1) (hby : i.bytes = 1) (v : Value) (n : Nat) (xs : List Value) (hs : a.eval sl = v) (hown : w.ownsRow base e 1 v n xs) (s : ByteArray) (hx : a.eval x = .string s)
    (hbytes : n + s.size ≤ 140737488355328) (hbase : base ≤ w.heap.size)
    (h : ∀ v' w', w'.ownsRow base e 1 v' (n + s.size) (xs ++ u8s s.data.toList) → w.grownBy w' v.ownBlock → (v'.ownBlock = v.ownBlock ∨ v'.ownBlock = some w.heap.size) → wpList P ops Q rest (a.put o.dst v') w') : wpList P ops Q (o :: rest) a w := by
  refine wpList_plain hgd fun K hK => ?_
  obtain ⟨v', w', hr, h2, h3, h4⟩ := run_append_text (P := P) w base t u o.type e i ht hu hi hz hsize hby v n xs hown s hbytes hbase
  unfold Oper.wp execOp
  simp only [ho, resolve, invoke, builtin, Sem.run_bind, Sem.run_pure, Result.andThen_ok, List.map_toArray, List.map_cons, List.map_nil, hs, hx, hr]
  exact hK _ _ (h v' w' h2 h3 h4)
theorem own_any {w : World} {base : Nat} {e : TypeId} {v : Value} {n : Nat} {xs : List Value} (h : w.ownsRow base e 1 v n xs) : ∃ A c, v = .slice A n c := by
  rcases own_form h with ⟨h, h0⟩ | ⟨g, c, h, _⟩
  · exact ⟨none, 0, by rw [h, h0]⟩
  · exact ⟨_, c, h⟩

set_option maxHeartbeats 1000000 in
set_option maxRecDepth 100000 in
theorem text_any (w : World) (p g h : Nat) (l : List UInt8) (A : Option Addr) (ns : List ByteArray) (cap : Nat) (hw : WrAt w p g l) (hr : CellsIn w h A (texts ns)) (hp : h ≠ p) (hg : h ≠ g)
    (hnl : ns.length ≤ 70368744177664) (hl : l.length + (ns.flatMap encT).length ≤ 70368744177000) :
    Calls Try.prog 15 #[.pointer (some ⟨p, 0, none⟩), .slice A ns.length cap] w (Wrote w p g (l ++ ns.flatMap encT)) := by
  obtain ⟨i0, hi, hz0, hz1, hz2⟩ := info_parts infoU8
  have HR := Lib.hid hr
  have HW := Lib.hid hw
  clear hr hw
  go_enter Try.func15, Try.ntmps15
  go_wp2
  go_loopw [5, 8] (fun _ i wr => ∃ k gk : Nat, k ≤ ns.length ∧ i = .int .i64 k ∧ WrAt wr p gk (l ++ (ns.take k).flatMap encT) ∧ (gk = g ∨ w.heap.size ≤ gk) ∧ Keeps [p, g] w wr) (fun _ i _ => ns.length - (intOf i).toNat)
  case atStart => exact ⟨0, g, Nat.zero_le _, rfl, by simpa using HW.out, .inl rfl, Keeps.refl _ _⟩
  case round =>
    obtain ⟨k, gk, hk, rfl, hwk, hgk, hkeep⟩ := hrel
    have HK := Lib.hid hkeep
    have HWK := Lib.hid hwk
    have HGK := Lib.hid hgk
    clear hkeep hwk hgk
    by_cases hlt : k < ns.length
    · rcases HR.out with h0 | ⟨off, rfl, hcell⟩
      · have : ns = [] := by simpa [texts] using h0
        subst this; simp at hlt
      · have hc := hcell k (by simpa [texts] using hlt)
        rw [texts_get hlt] at hc
        have HE := Lib.hid (flat_next encT l hlt)
        have HTL := Lib.hid (flat_take_len encT ns (k + 1))
        obtain ⟨n, hn⟩ : ∃ n, n = ns[k] := ⟨_, rfl⟩
        rw [← hn] at hc HE
        have hcw := HK.out.cell_some hc (show h ∉ [p, g] by simp [hp, hg])
        have hsum : (l ++ (ns.take k).flatMap encT).length + (M.enc n.size).length + n.size ≤ 70368744177000 := by
          have h1 := congrArg List.length HE.out
          have h2 := HTL.out
          have h3 : (encT n).length = (M.enc n.size).length + n.size := by
            unfold encT M.encText
            rw [List.length_append, Array.length_toList]
            rfl
          simp only [List.length_append] at h1 ⊢
          omega
        have hn1 : n.size ≤ 70368744177664 := by omega
        have HSUM := Lib.hid hsum
        clear hc hcell hn hsum
        go_wp2_with fail
        refine (num_one (n := n.size) HWK.out ?_ ?_ ?_).mono ?_
        · rfl
        · omega
        · have := HSUM.out; omega
        rintro e w2 ⟨rfl, hq⟩
        obtain ⟨g2, hw2, hg2, hk2⟩ := hq
        obtain ⟨L2, hL2⟩ : ∃ L2, L2 = l ++ List.flatMap encT (List.take k ns) ++ M.enc n.size := ⟨_, rfl⟩
        rw [← hL2] at hw2
        have hlen2 : L2.length + n.size ≤ 140737488355328 := by have := HSUM.out; rw [hL2, List.length_append]; omega
        have HL2 := Lib.hid hL2
        clear hL2
        obtain ⟨v, hb, hown, hvb, hg2s⟩ := hw2
        have hcp := cell_of_one hb
        have hfp := free_of_one hb
        have HB := Lib.hid hb
        have HO := Lib.hid hown
        have HVB := Lib.hid hvb
        have HG2 := Lib.hid hg2
        have HK2 := Lib.hid hk2
        clear hb hown hvb hg2 hk2
        go_wp2_with (at_builtin; refine wpList_append_text _ rfl _ _ 27 9 rfl 0 5 i0 Try.underlying27 Try.underlying9 hi hz0 hz1 hz2 v _ _ rfl HO.out n rfl hlen2 (Nat.zero_le _) ?_)
        intro v1 w1 h1 h2 h3
        obtain ⟨A1, c1, rfl⟩ := own_any h1
        obtain ⟨-, hb1, -⟩ := pushed_cell HB.out HO.out (Keeps.refl [] w2) h2
        have hcp1 := cell_of_one hb1
        have hfp1 := free_of_one hb1
        have HQ := Lib.hid (WrAt.pushed HB.out HVB.out hg2s HO.out (Keeps.refl [] w2) (show n.size = n.data.toList.length by rw [Array.length_toList]; rfl) h1 h2 h3)
        clear h1 h2 h3 hb1
        go_wp2
        go_roundw
        case rel =>
          refine next_rel HE.out hlt HGK.out HK.out ?_
          obtain ⟨g3, q1, q2, q3⟩ := HQ.out
          have := HG2.out
          have := HK2.out.size
          have e : l ++ (ns.take k).flatMap encT ++ encT n = L2 ++ n.data.toList := by
            rw [HL2.out]
            unfold encT M.encText
            rw [Array.length_toList, ← List.append_assoc (l ++ _) (M.enc _)]
            rfl
          refine ⟨g3, by rw [e]; exact q1, by omega, HK2.out.trans q3 (fun i hi hl => ?_)⟩
          simp only [List.mem_cons, List.not_mem_nil, or_false] at hi ⊢
          omega
        case measure => simp [intOf]; omega
    · go_wp2
      go_end0
      refine ⟨rfl, gk, ?_, HGK.out, HK.out⟩
      have := HWK.out
      rwa [List.take_of_length_le (by omega)] at this

/-! ### Bool -/
def bools (bs : List Bool) : List Value := bs.map .bool
theorem bools_get {bs : List Bool} {j : Nat} (h : j < bs.length) : (bools bs)[j]'(by simpa [bools] using h) = .bool bs[j] := by simp [bools]
theorem flat_bools_len (bs : List Bool) : (bs.flatMap M.encBool).length = bs.length := by
  induction bs with
  | nil => rfl
  | cons b r ih => simp only [List.flatMap_cons, List.length_append, List.length_cons, ih, M.encBool, List.length_nil]; omega

set_option maxHeartbeats 1000000 in
set_option maxRecDepth 100000 in
theorem bool_any (w : World) (p g h : Nat) (l : List UInt8) (A : Option Addr) (ns : List Bool) (cap : Nat) (hw : WrAt w p g l) (hr : CellsIn w h A (bools ns)) (hp : h ≠ p) (hg : h ≠ g)
    (hl : l.length + ns.length ≤ 70368744177664) :
    Calls Try.prog 16 #[.pointer (some ⟨p, 0, none⟩), .slice A ns.length cap] w (Wrote w p g (l ++ ns.flatMap M.encBool)) := by
  obtain ⟨i0, hi, hz0, hz1, hz2⟩ := info_parts infoU8
  have HR := Lib.hid hr
  have HW := Lib.hid hw
  clear hr hw
  go_enter Try.func16, Try.ntmps16
  go_wp2
  go_loopw [5, 8] (fun _ i wr => ∃ k gk : Nat, k ≤ ns.length ∧ i = .int .i64 k ∧ WrAt wr p gk (l ++ (ns.take k).flatMap M.encBool) ∧ (gk = g ∨ w.heap.size ≤ gk) ∧ Keeps [p, g] w wr) (fun _ i _ => ns.length - (intOf i).toNat)
  case atStart => exact ⟨0, g, Nat.zero_le _, rfl, by simpa using HW.out, .inl rfl, Keeps.refl _ _⟩
  case round =>
    obtain ⟨k, gk, hk, rfl, hwk, hgk, hkeep⟩ := hrel
    have HK := Lib.hid hkeep
    have HWK := Lib.hid hwk
    have HGK := Lib.hid hgk
    clear hkeep hwk hgk
    by_cases hlt : k < ns.length
    · rcases HR.out with h0 | ⟨off, rfl, hcell⟩
      · have : ns = [] := by simpa [bools] using h0
        subst this; simp at hlt
      · have hc := hcell k (by simpa [bools] using hlt)
        rw [bools_get hlt] at hc
        have HE := Lib.hid (flat_next M.encBool l hlt)
        obtain ⟨n, hn⟩ : ∃ n, n = ns[k] := ⟨_, rfl⟩
        rw [← hn] at hc HE
        have hcw := HK.out.cell_some hc (show h ∉ [p, g] by simp [hp, hg])
        obtain ⟨L2, hL2⟩ : ∃ L2, L2 = l ++ List.flatMap M.encBool (List.take k ns) := ⟨_, rfl⟩
        have hlen2 : L2.length + 1 ≤ 140737488355328 := by
          rw [hL2, List.length_append, flat_bools_len, List.length_take]; omega
        obtain ⟨v, hb, hown, hvb, hg2s⟩ := HWK.out
        rw [← hL2] at hown
        have hcp := cell_of_one hb
        have hfp := free_of_one hb
        have HL2 := Lib.hid hL2
        have HB := Lib.hid hb
        have HO := Lib.hid hown
        have HVB := Lib.hid hvb
        clear hc hcell hn hL2 hb hown hvb
        cases n
        · go_wp2_with (at_builtin; refine wpList_append_own_at _ rfl _ _ 27 rfl 0 5 i0 (.int .u8 0) 1 1 Try.underlying27 hi hz0 hz1 hz2 rfl (by decide) v L2.length (u8s L2) rfl (HO.out.alloc _) ⟨wr.heap.size, 0, none⟩ 1 1 (u8s [0]) rfl rfl (cell_one_new _ _ _) (u8s_one _) ?qa3 ?qa4 ?qa5 ?_)
          case qa3 => unfold maxLen; omega
          case qa4 => omega
          case qa5 => simp
          intro v1 w1 h1 h2 _ h3
          obtain ⟨g1, c1, rfl⟩ := own_slice h1 (by omega)
          obtain ⟨-, hb1, -⟩ := pushed_cell HB.out HO.out ((Keeps.refl [] wr).alloc _) h2
          have hcp1 := cell_of_one hb1
          have hfp1 := free_of_one hb1
          have HQ := Lib.hid (WrAt.pushed HB.out HVB.out hg2s HO.out ((Keeps.refl [] wr).alloc _) rfl h1 h2 (by simpa using h3))
          clear h1 h2 h3 hb1
          go_wp2
          go_roundw
          case rel =>
            refine next_rel HE.out hlt HGK.out HK.out ?_
            rw [← HL2.out]
            exact HQ.out
          case measure => simp [intOf]; omega
        · go_wp2_with (at_builtin; refine wpList_append_own_at _ rfl _ _ 27 rfl 0 5 i0 (.int .u8 0) 1 1 Try.underlying27 hi hz0 hz1 hz2 rfl (by decide) v L2.length (u8s L2) rfl (HO.out.alloc _) ⟨wr.heap.size, 0, none⟩ 1 1 (u8s [1]) rfl rfl (cell_one_new _ _ _) (u8s_one _) ?qb3 ?qb4 ?qb5 ?_)
          case qb3 => unfold maxLen; omega
          case qb4 => omega
          case qb5 => simp
          intro v1 w1 h1 h2 _ h3
          obtain ⟨g1, c1, rfl⟩ := own_slice h1 (by omega)
          obtain ⟨-, hb1, -⟩ := pushed_cell HB.out HO.out ((Keeps.refl [] wr).alloc _) h2
          have hcp1 := cell_of_one hb1
          have hfp1 := free_of_one hb1
          have HQ := Lib.hid (WrAt.pushed HB.out HVB.out hg2s HO.out ((Keeps.refl [] wr).alloc _) rfl h1 h2 (by simpa using h3))
          clear h1 h2 h3 hb1
          go_wp2
          go_roundw
          case rel =>
            refine next_rel HE.out hlt HGK.out HK.out ?_
            rw [← HL2.out]
            exact HQ.out
          case measure => simp [intOf]; omega
    · go_wp2
      go_end0
      refine ⟨rfl, gk, ?_, HGK.out, HK.out⟩
      have := HWK.out
      rwa [List.take_of_length_le (by omega)] at this
end Go.Proofs.Ytohmadfaaonaaaa
