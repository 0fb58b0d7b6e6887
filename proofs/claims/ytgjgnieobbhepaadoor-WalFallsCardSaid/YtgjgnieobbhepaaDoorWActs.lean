/- The laws' helpers light and size; append of records that keeps what they lie in. -/
import Derived.Test.YtgjgnieobbhepaaDoorWApp
namespace Go.Proofs.YtgjgnieobbhepaaDoor
open Go.RowKit
open Reg (Is Fact CB)

/-- A script in memory: each act's number and lengths. -/
def ActsIn (w : World) (A : Option Addr) (l : List (Int × List UInt8)) : Prop := l = [] ∨ ∃ b off, A = some ⟨b, off, none⟩ ∧ ∀ k (h : k < l.length), ∃ B cap g, w.cell? ⟨b, off + k * 2, none⟩ = some (.int .i64 l[k].1) ∧ w.cell? ⟨b, off + k * 2 + 1, none⟩ = some (.slice B l[k].2.length cap) ∧ BytesIn w g B l[k].2
theorem ActsIn.keep0 {w w' : World} {A : Option Addr} {l : List (Int × List UInt8)} (h : ActsIn w A l) (hk : Keeps [] w w') : ActsIn w' A l := by
  rcases h with h | ⟨b, off, hA, hc⟩
  · exact .inl h
  · refine .inr ⟨b, off, hA, fun k hk' => ?_⟩
    obtain ⟨B, cap, g, h1, h2, h3⟩ := hc k hk'
    exact ⟨B, cap, g, hk.cell_some h1 (by simp), hk.cell_some h2 (by simp), h3.keep hk (by simp)⟩
def Light (l : List (Int × List UInt8)) : Prop := l.length ≤ 30 ∧ ∀ a ∈ l, List.length a.2 ≤ 6
instance (l : List (Int × List UInt8)) : Decidable (Light l) := by unfold Light; exact inferInstance
set_option maxRecDepth 100000 in
set_option maxHeartbeats 1000000 in
theorem light_any (w : World) (A : Option Addr) (cap : Nat) (l : List (Int × List UInt8)) (hr : ActsIn w A l) : Calls Tryd.prog 11 #[.slice A l.length cap] w fun e w' => e = .returned (.bool (decide (Light l))) ∧ Keeps [] w w' := by
  have HR := Lib.hid hr
  clear hr
  by_cases hl : l.length ≤ 30
  · have e1 : decide ((30 : Int) < (l.length : Int)) = false := by simp; omega
    go_enter Tryd.func11, Tryd.ntmps11
    go_wp2_with fail
    go_loopw [3] (fun kv wr => ∃ k : Nat, k ≤ l.length ∧ kv = .int .i64 (k : Int) ∧ (∀ a ∈ l.take k, List.length a.2 ≤ 6) ∧ Keeps [] w wr) (fun kv _ => l.length - (RowKit.intOf kv).toNat)
    case atStart => exact ⟨0, by omega, rfl, by simp, Keeps.refl _ _⟩
    case round =>
      obtain ⟨k, hk, rfl, hall, hkk⟩ := hrel
      have HA := Lib.hid hall
      have HK := Lib.hid hkk
      clear hall hkk
      by_cases hlt : k < l.length
      · rcases HR.out.keep0 HK.out with h0 | ⟨b, off, rfl, hc⟩
        · rw [h0] at hlt; simp at hlt
        · obtain ⟨Bl, cp, g, q1, q2, _⟩ := hc k hlt
          obtain ⟨n, hn⟩ : ∃ n, n = (l[k]).2.length := ⟨_, rfl⟩
          rw [← hn] at q2
          have HN := Lib.hid hn
          have ek : IntKind.i64.wrap ((k : Int) + 1) = (k : Int) + 1 := IntWalk.i64_in _ ⟨by omega, by omega⟩
          clear hc hn q1
          by_cases hn6 : n ≤ 6
          · have e6 : decide ((6 : Int) < (n : Int)) = false := by simp; omega
            have HA2 := Lib.hid (show ∀ a ∈ l.take (k + 1), List.length a.2 ≤ 6 from fun a ha => by
              rw [List.take_succ_eq_append_getElem hlt] at ha
              rcases List.mem_append.1 ha with h | h
              · exact HA.out a h
              · have : a = l[k] := by simpa using h
                rw [this, ← HN.out]; exact hn6)
            clear hn6
            go_wp2_with fail
            go_roundw
            case rel => exact ⟨k + 1, by omega, by push_cast; rfl, HA2.out, HK.out⟩
            case measure => simp [RowKit.intOf]; omega
          · have e6 : decide ((6 : Int) < (n : Int)) = true := by simp; omega
            have HF := Lib.hid (show decide (Light l) = false by
              rw [decide_eq_false_iff_not]
              rintro ⟨_, h⟩
              have := h _ (List.getElem_mem hlt)
              rw [← HN.out] at this
              omega)
            clear hn6
            go_wp2_with fail
            go_ret
            exact ⟨by rw [HF.out]; rfl, HK.out⟩
      · have HT := Lib.hid (show decide (Light l) = true by
          rw [decide_eq_true_iff]
          refine ⟨hl, fun a ha => HA.out a ?_⟩
          rw [List.take_of_length_le (by omega)]; exact ha)
        go_wp2_with fail
        go_ret
        exact ⟨by rw [HT.out]; rfl, HK.out⟩
  · have e1 : decide ((30 : Int) < (l.length : Int)) = true := by simp; omega
    have HF := Lib.hid (show decide (Light l) = false by
      rw [decide_eq_false_iff_not]
      rintro ⟨h, _⟩
      exact hl h)
    clear hl
    go_enter Tryd.func11, Tryd.ntmps11
    go_wp2_with fail
    go_ret
    exact ⟨by rw [HF.out]; rfl, Keeps.refl _ _⟩
/-- The sum that size reckons. -/
def sz (rs : List (List UInt8)) : Nat := (rs.map fun r => List.length r + 16).sum
theorem sz_take {rs : List (List UInt8)} {k : Nat} (h : k < rs.length) : sz (rs.take (k + 1)) = sz (rs.take k) + (rs[k].length + 16) := by
  unfold sz
  rw [List.take_succ_eq_append_getElem h, List.map_append, List.sum_append]
  simp
theorem sz_body (rs : List (List UInt8)) : (L.body rs).length ≤ sz rs ∧ 12 * rs.length + (L.body rs).length ≤ sz rs := by
  induction rs with
  | nil => simp [L.body, sz]
  | cons r rs ih =>
    have e : sz (r :: rs) = r.length + 16 + sz rs := by simp [sz]
    rw [e, L.body_cons_len, List.length_cons]
    omega
theorem sz_le {rs : List (List UInt8)} {m : Nat} (h : ∀ r ∈ rs, List.length r ≤ m) : sz rs ≤ (m + 16) * rs.length := by
  induction rs with
  | nil => simp [sz]
  | cons r rs ih =>
    have h1 := h r (by simp)
    have h2 := ih (fun x hx => h x (by simp [hx]))
    have e : sz (r :: rs) = r.length + 16 + sz rs := by simp [sz]
    rw [e, List.length_cons, Nat.mul_add]
    omega
set_option maxRecDepth 100000 in
set_option maxHeartbeats 1000000 in
theorem size_of (w : World) (G : Nat → Prop) (A : Option Addr) (cap : Nat) (rs : List (List UInt8)) (hr : RowsIn w G A rs) (h255 : ∀ r ∈ rs, List.length r ≤ 255) (hl : rs.length ≤ 1000) : Calls Tryd.prog 18 #[.slice A rs.length cap] w fun e w' => e = .returned (.int .i64 ((sz rs : Nat) : Int)) ∧ Keeps [] w w' := by
  have HR := Lib.hid hr
  have H2 := Lib.hid h255
  clear hr h255
  go_enter Tryd.func18, Tryd.ntmps18
  go_wp2_with fail
  go_loopw [3, 4] (fun nv kv wr => ∃ k m : Nat, k ≤ rs.length ∧ kv = .int .i64 (k : Int) ∧ nv = .int .i64 (m : Int) ∧ m = sz (rs.take k) ∧ m ≤ 271 * k ∧ Keeps [] w wr) (fun _ kv _ => rs.length - (RowKit.intOf kv).toNat)
  case atStart => exact ⟨0, 0, by omega, rfl, rfl, by simp [sz], by omega, Keeps.refl _ _⟩
  case round =>
    obtain ⟨k, m, hk, rfl, rfl, hm, hm2, hkk⟩ := hrel
    have HM := Lib.hid hm
    have HK := Lib.hid hkk
    clear hm hkk
    by_cases hlt : k < rs.length
    · rcases HR.out.keep HK.out (G' := G) (by simp) (fun _ h => h) with h0 | ⟨b, off, rfl, _, hc⟩
      · rw [h0] at hlt; simp at hlt
      · obtain ⟨x, q1, q2⟩ := hc k hlt
        obtain ⟨Ax, gx, cx, rfl, _⟩ := q2
        have h2 := H2.out _ (List.getElem_mem hlt)
        have HS := Lib.hid (sz_take hlt)
        obtain ⟨n, hn⟩ : ∃ n, n = (rs[k]).length := ⟨_, rfl⟩
        rw [← hn] at q1 h2 HS
        have ek : IntKind.i64.wrap ((k : Int) + 1) = (k : Int) + 1 := IntWalk.i64_in _ ⟨by omega, by omega⟩
        have e16 : IntKind.i64.wrap ((n : Int) + 16) = (n : Int) + 16 := IntWalk.i64_in _ ⟨by omega, by omega⟩
        have es : IntKind.i64.wrap ((m : Int) + ((n : Int) + 16)) = ((m + (n + 16) : Nat) : Int) := by
          rw [show ((m + (n + 16) : Nat) : Int) = (m : Int) + ((n : Int) + 16) by push_cast; rfl]; exact IntWalk.i64_in _ ⟨by omega, by omega⟩
        clear hc hn
        go_wp2_with fail
        go_roundw
        case rel => exact ⟨k + 1, m + (n + 16), by omega, by push_cast; rfl, rfl, by rw [HS.out, HM.out], by omega, HK.out⟩
        case measure => simp [RowKit.intOf]; omega
    · have HQ := Lib.hid (show (m : Int) = ((sz rs : Nat) : Int) by rw [HM.out, List.take_of_length_le (by omega)])
      go_wp2_with fail
      go_ret
      exact ⟨by rw [← HQ.out]; rfl, HK.out⟩

/-- A row of records whose own blocks keep G. -/
def RowsBy (w : World) (G : Nat → Prop) (v : Value) (rs : List (List UInt8)) : Prop :=
  ∃ xs, w.ownsRow 0 34 1 v rs.length xs ∧ ∀ j (h : j < rs.length), ∃ x, xs[j]? = some x ∧ ElV w G x rs[j]
theorem RowsBy.nil (w : World) (G : Nat → Prop) : RowsBy w G (.slice none 0 0) [] := ⟨[], World.ownsRow_nil w 0 _ 1, fun j h => by simp at h⟩
theorem RowsBy.form {w : World} {G : Nat → Prop} {v : Value} {rs : List (List UInt8)} (h : RowsBy w G v rs) : ∃ A cap, v = .slice A rs.length cap ∧ (A = none → rs = []) ∧ RowsIn w (fun y => G y ∨ v.ownBlock = some y) A rs := by
  obtain ⟨xs, ho, he⟩ := h
  rcases ho.2 with ⟨hv, h0⟩ | ⟨g, cap, cur, hv, hb, hg, hn, hm, _⟩
  · have hr : rs = [] := List.eq_nil_of_length_eq_zero h0
    exact ⟨none, 0, by rw [hv, h0], fun _ => hr, .inl hr⟩
  · refine ⟨some ⟨g, 0, none⟩, cap, hv, (fun e => by cases e), .inr ⟨g, 0, rfl, .inr (by rw [hv]; rfl), fun j hj => ?_⟩⟩
    obtain ⟨x, h1, h2⟩ := he j hj
    have := ho.cells (g := g) (by rw [hv]; rfl) j x h1
    rw [Addr.add_lit] at this
    exact ⟨x, this, h2.mono (fun y hy => .inl hy)⟩
theorem RowsBy.own_lt {w : World} {G : Nat → Prop} {v : Value} {rs : List (List UInt8)} (h : RowsBy w G v rs) {g : Nat} (hg : v.ownBlock = some g) : g < w.heap.size := by
  obtain ⟨xs, ho, _⟩ := h
  rcases ho.2 with ⟨hv, h0⟩ | ⟨g', cap, cur, hv, hb, hgg, hn, hm, _⟩
  · rw [hv] at hg; simp [Value.ownBlock] at hg
  · rw [hv] at hg
    have : g' = g := by simpa [Value.ownBlock] using hg
    subst this
    exact block_lt hgg
theorem append_by (w : World) (v : Value) (rs ls : List (List UInt8)) (A : Option Addr) (c : Nat) (G : Nat → Prop) (h : RowsBy w G v rs) (hx : RowsIn w G A ls) (hG : ∀ y, G y → v.ownBlock ≠ some y) (hlen : rs.length + ls.length ≤ 1000000) :
    ∃ v' w', (Builtin.append_ #[28, 28] 28 #[v, .slice A ls.length c]).run Tryd.prog w = .ok v' w' ∧ RowsBy w' G v' (rs ++ ls) ∧ w.grownBy w' v.ownBlock ∧ (v'.ownBlock = v.ownBlock ∨ v'.ownBlock = some w.heap.size) := by
  obtain ⟨iS, hS, hS0, hS1, hS2⟩ := info_parts infoSl
  obtain ⟨xs, ho, he⟩ := h
  have hxl : xs.length = rs.length := by simpa using ho.1
  by_cases hl0 : ls = []
  · subst hl0
    refine ⟨v, w, ?_, by rw [List.append_nil]; exact ⟨xs, ho, he⟩, World.grownBy.refl _ _, .inl rfl⟩
    rcases ho.2 with ⟨rfl, h0⟩ | ⟨g, cap, cur, rfl, _, _, hn, _⟩
    · cases A <;> simp [Builtin.append_, run_underlying Tryd.underlying28, sizeOf, typeInfo, hS, Builtin.lenOf, Builtin.firstCells, loadCells, loadCellsFrom]
    · cases A <;> simp [Builtin.append_, run_underlying Tryd.underlying28, sizeOf, typeInfo, hS, Builtin.lenOf, Builtin.firstCells, loadCells, loadCellsFrom, hn, storeCells, Result.andThen]
  · obtain ⟨b, off, rfl⟩ : ∃ b off, A = some ⟨b, off, none⟩ := by
      rcases hx with h | ⟨b, off, h, _⟩
      · exact absurd h hl0
      · exact ⟨b, off, h⟩
    obtain ⟨news, n1, n2, n3⟩ := hx.news
    have hone : ∀ u ∈ news, u.oneCell' = true := fun u hu => by
      obtain ⟨j, hj, hju⟩ := List.getElem_of_mem hu
      obtain ⟨x, h1, h2⟩ := n3 j (by omega)
      obtain ⟨A', g', cap', hv', _⟩ := h2
      have : u = x := by
        have h3 : news[j]? = some u := by rw [List.getElem?_eq_getElem hj, hju]
        rw [h3] at h1; exact Option.some.inj h1
      rw [this, hv']; rfl
    obtain ⟨v', w', hr, h2, h3, _, h5⟩ := run_append_own_at (P := Tryd.prog) w 0 28 28 34 iS (.slice none 0 0) 1 24 Tryd.underlying28 hS hS0 hS1 hS2 rfl (by decide) v rs.length xs ho ⟨b, off, none⟩ ls.length c news (by omega) n2 hone (by unfold maxLen; omega) (by omega) (Nat.zero_le _)
    refine ⟨v', w', hr, ⟨xs ++ news, by rw [List.length_append]; exact h2, fun j hj => ?_⟩, h3, h5⟩
    have step : ∀ {x : Value} {l : List UInt8}, ElV w G x l → ElV w' G x l := fun h => h.grown h3 (fun y hy => hG y hy) (fun _ hy => hy)
    by_cases hl : j < rs.length
    · obtain ⟨x, q1, q2⟩ := he j hl
      refine ⟨x, by rw [List.getElem?_append_left (by omega)]; exact q1, ?_⟩
      rw [List.getElem_append_left hl]; exact step q2
    · have hj' : j - rs.length < ls.length := by rw [List.length_append] at hj; omega
      obtain ⟨x, q1, q2⟩ := n3 (j - rs.length) hj'
      refine ⟨x, by rw [List.getElem?_append_right (by omega), hxl]; exact q1, ?_⟩
      rw [List.getElem_append_right (by omega)]; exact step q2
theorem wpList_append_by {w : World} {ops : Array Oper} {rest : List Oper} {o : Oper} {a : Act} {Q : Exit → Act → World → Prop} (hgd : o.guard = none) (s x : Operand)
    (ho : o.op = .call { callee := .builtin .append, args := #[s, x], argTypes := #[28, 28] }) (hty : o.type = 28)
    (v : Value) (rs ls : List (List UInt8)) (A : Option Addr) (c : Nat) (G : Nat → Prop) (hs : a.eval s = v) (hx0 : a.eval x = .slice A ls.length c)
    (h : RowsBy w G v rs) (hx : RowsIn w G A ls) (hG : ∀ y, G y → v.ownBlock ≠ some y) (hlen : rs.length + ls.length ≤ 1000000)
    (hK : ∀ v' w', RowsBy w' G v' (rs ++ ls) → w.grownBy w' v.ownBlock → (v'.ownBlock = v.ownBlock ∨ v'.ownBlock = some w.heap.size) → wpList Tryd.prog ops Q rest (a.put o.dst v') w') :
    wpList Tryd.prog ops Q (o :: rest) a w := by
  refine wpList_plain hgd fun K hK' => ?_
  obtain ⟨v', w', hr, h2, h3, h4⟩ := append_by w v rs ls A c G h hx hG hlen
  unfold Oper.wp execOp
  simp only [ho, hty, resolve, invoke, builtin, Sem.run_bind, Sem.run_pure, Result.andThen_ok, List.map_toArray, List.map_cons, List.map_nil, hs, hx0, hr]
  exact hK' _ _ (hK v' w' h2 h3 h4)
end Go.Proofs.YtgjgnieobbhepaaDoor
