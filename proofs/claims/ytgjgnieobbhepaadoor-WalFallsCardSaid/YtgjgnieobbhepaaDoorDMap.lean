/- The fresh map: its entries; that it stays small; a store, a delete, a clear. -/
import Derived.Test.YtgjgnieobbhepaaDoorDRead
import Derived.Lib.SlKeysI
namespace Go.Proofs.YtgjgnieobbhepaaDoor
open Go.RowKit Go.WideShapes Go.ChangeMaps

theorem sorted_mem {H : Type} {es : List (Lit × DataW H)} {p : Lit × DataW H} : p ∈ es.foldr DataW.insert [] ↔ p ∈ es := (sorted_perm es).mem_iff
/-- What a map of int keys reads as. -/
theorem own_entries {w : World} {gm k : Nat} {D : DataW Value} (h : w.ownsMap Tryd.prog 3 Raw gm k D) : ∃ L, D = .map L ∧ L.Pairwise (fun p q => p.1 ≠ q.1) ∧ ∀ p ∈ L, ∃ x, p.1 = .int .i64 x ∧ (Lit.int .i64 x).wf = true := by
  obtain ⟨L, hD, hL⟩ := h.tidy keyLaw
  refine ⟨L, hD, hL, fun p hp => ?_⟩
  obtain ⟨es, c, hb, F, hs, hD2⟩ := h
  rw [hD2] at hD
  have hLe : (es.toList.map (Go.WideElems.rg Tryd.prog 3 Raw)).foldr DataW.insert [] = L := by injection hD
  rw [← hLe] at hp
  have h2 := Maps.fit_keys F p (sorted_mem.1 hp)
  obtain ⟨v, hv⟩ := h2
  obtain ⟨x, _, h4, h5⟩ := Maps.keyOf_int_inv Tryd.underlying3 hv
  exact ⟨x, h4, h5⟩
theorem same_int (x : Int) : (Lit.int .i64 x).sameKey (.int .i64 x) = true := by simp [Lit.sameKey]
theorem entries_has {L : List (Lit × DataW Value)} (hL : ∀ p ∈ L, ∃ x, p.1 = .int .i64 x ∧ (Lit.int .i64 x).wf = true) {p : Lit × DataW Value} (hp : p ∈ L) : Maps.has (.map L) p.1 = true := by
  rw [Maps.has_eq, List.any_eq_true]
  obtain ⟨x, hx, _⟩ := hL p hp
  exact ⟨p, hp, by rw [hx]; exact same_int x⟩
/-- The numbers of the keys. -/
def litInt : Lit → Int
  | .int _ z => z
  | _ => 0
def idx (p : Lit × DataW Value) : Nat := (litInt p.1).toNat
theorem idx_key {L : List (Lit × DataW Value)} {n : Nat} (hk : ∀ kl, Maps.has (.map L) kl = true → ∃ i, i < n ∧ kl = key i) (hL : ∀ p ∈ L, ∃ x, p.1 = .int .i64 x ∧ (Lit.int .i64 x).wf = true) {p : Lit × DataW Value} (hp : p ∈ L) : p.1 = key (idx p) ∧ idx p < n := by
  obtain ⟨i, hi, e⟩ := hk _ (entries_has hL hp)
  have : idx p = i := by unfold idx; rw [e]; simp [key, litInt]
  exact ⟨by rw [this]; exact e, by omega⟩
theorem idx_nodup {L : List (Lit × DataW Value)} {n : Nat} (hk : ∀ kl, Maps.has (.map L) kl = true → ∃ i, i < n ∧ kl = key i) (hL : ∀ p ∈ L, ∃ x, p.1 = .int .i64 x ∧ (Lit.int .i64 x).wf = true) (hd : L.Pairwise (fun p q => p.1 ≠ q.1)) : (L.map idx).Nodup := by
  unfold List.Nodup
  rw [List.pairwise_map]
  exact hd.imp_of_mem fun {p q} hp hq hne => fun e => hne (by rw [(idx_key hk hL hp).1, (idx_key hk hL hq).1, e])
/-- As many entries as there are sectors, at the most. -/
theorem owns_small {w : World} {gm k n : Nat} {D : DataW Value} (h : w.ownsMap Tryd.prog 3 Raw gm k D) (hk : ∀ kl, Maps.has D kl = true → ∃ i, i < n ∧ kl = key i) : w.ownsMap Tryd.prog 3 Raw gm n D := by
  obtain ⟨L, hD, hd, hL⟩ := own_entries h
  obtain ⟨es, c, hb, F, hs, hD2⟩ := h
  refine ⟨es, c, hb, F, ?_, hD2⟩
  have hlen : es.size = L.length := by
    rw [hD2] at hD
    have hLe : (es.toList.map (Go.WideElems.rg Tryd.prog 3 Raw)).foldr DataW.insert [] = L := by injection hD
    rw [← hLe, length_sorted]
    simp
  rw [hD] at hk
  have h1 := nodup_lt n (L.map idx) (idx_nodup hk hL hd) (fun x hx => by
    obtain ⟨p, hp, rfl⟩ := List.mem_map.1 hx
    exact (idx_key hk hL hp).2)
  rw [List.length_map] at h1
  omega
theorem key_lit (i : Nat) : WideAt.IsKeyLit (key i) := by unfold key; simp [WideAt.IsKeyLit]
theorem turned_keeps {w w' : World} {b : Nat} (h : w.mapTurned w' b) : Keeps [b] w w' := (Keeps.of_grown h.grown).mono (by simp)
theorem turned_size {w w' : World} {b : Nat} (h : w.mapTurned w' b) : w'.heap.size = w.heap.size := by
  obtain ⟨es, c, es', c', hb, rfl⟩ := h
  simp [setBlock]
/-- 'm[i] = v'. -/
theorem FrAt.store {w w1 : World} {gm n i : Nat} {B B' : Nat → Prop} {fr : Nat → Option (List UInt8)} {v : Value} {b : List UInt8} (h : FrAt w gm B n fr) (hn : n ≤ 4096) (hi : i < n) (hk : Keeps [] w w1) (hs : SecV w1 B' v b) (hB : ∀ x, B x → B' x) (hgm : ¬ B' gm) :
    ∃ w2, (Instr.mapUpdate 43 (.map (some gm)) (.int .i64 (i : Int)) v).run Tryd.prog w1 = .ok () w2 ∧ FrAt w2 gm B' n (fun j => if j = i then some b else fr j) ∧ w1.mapTurned w2 gm := by
  obtain ⟨k, D, ho, h1, h2⟩ := h
  have ho' := owns_small ho (fun kl hkl => by obtain ⟨j, hj, e, _⟩ := h1 kl hkl; exact ⟨j, hj, e⟩)
  have ho1 := owns_keep ho' hk (by simp)
  obtain ⟨w2, hrun, ho2, ht⟩ := ho1.store keyLaw Tryd.underlying43 (by unfold maxLen; omega) (key_of (by omega) : keyOf Tryd.prog 3 (.int .i64 (i : Int)) = some (key i)) (d := .held v) (ps := []) rfl
  have hmap := ho1.isMap
  have hk2 : Keeps [gm] w1 w2 := turned_keeps ht
  refine ⟨w2, hrun, ⟨n + 1, _, ho2, fun kl hkl => ?_, fun j c hj => ?_⟩, ht⟩
  · by_cases e : kl = key i
    · exact ⟨i, hi, e, by simp⟩
    · rw [Maps.has_put_other e] at hkl
      obtain ⟨j, hj, e2, hjs⟩ := h1 kl hkl
      refine ⟨j, hj, e2, ?_⟩
      by_cases hji : j = i
      · simp [hji]
      · simp [hji, hjs]
  · by_cases hji : j = i
    · subst hji
      simp only [if_true] at hj
      cases hj
      exact ⟨Maps.has_put_same hmap (key_lit _) _, v, fun z => Maps.atKey_put_same hmap (key_lit _) _ _, hs.keep hk2 (fun x hx => by simp at hx; rw [hx]; exact hgm) (fun _ h => h)⟩
    · simp only [hji, if_false] at hj
      have hne : key j ≠ key i := fun e => hji (key_inj e)
      obtain ⟨h3, v', h4, h5⟩ := h2 j c hj
      refine ⟨by rw [Maps.has_put_other hne]; exact h3, v', fun z => by rw [Maps.atKey_put_other hne]; exact h4 z, ?_⟩
      exact (h5.keep hk (by simp) hB).keep hk2 (fun x hx => by simp at hx; rw [hx]; exact hgm) (fun _ h => h)
/-- 'delete(m, i)'. -/
theorem FrAt.drop {w : World} {gm n i : Nat} {B : Nat → Prop} {fr : Nat → Option (List UInt8)} (h : FrAt w gm B n fr) (hn : n ≤ 4096) (hi : i < n) (hgm : ¬ B gm) (ty : TypeId) :
    ∃ w2, (Builtin.delete_ #[43, 3] ty #[.map (some gm), .int .i64 (i : Int)]).run Tryd.prog w = .ok (.tuple #[]) w2 ∧ FrAt w2 gm B n (fun j => if j = i then none else fr j) ∧ w.mapTurned w2 gm := by
  obtain ⟨k, D, ho, h1, h2⟩ := h
  obtain ⟨w2, hrun, ho2, ht⟩ := ho.drop keyLaw Tryd.underlying43 (key_of (by omega) : keyOf Tryd.prog 3 (.int .i64 (i : Int)) = some (key i)) ty
  have hk2 : Keeps [gm] w w2 := turned_keeps ht
  refine ⟨w2, hrun, ⟨k, _, ho2, fun kl hkl => ?_, fun j c hj => ?_⟩, ht⟩
  · by_cases e : kl = key i
    · rw [e, Maps.has_del_same] at hkl; cases hkl
    · rw [Maps.has_del_other e] at hkl
      obtain ⟨j, hj, e2, hjs⟩ := h1 kl hkl
      refine ⟨j, hj, e2, ?_⟩
      have hji : j ≠ i := fun e3 => e (by rw [e2, e3])
      simp [hji, hjs]
  · by_cases hji : j = i
    · simp [hji] at hj
    · simp only [hji, if_false] at hj
      have hne : key j ≠ key i := fun e => hji (key_inj e)
      obtain ⟨h3, v', h4, h5⟩ := h2 j c hj
      exact ⟨by rw [Maps.has_del_other hne]; exact h3, v', fun z => by rw [Maps.atKey_del_other hne]; exact h4 z, h5.keep hk2 (fun x hx => by simp at hx; rw [hx]; exact hgm) (fun _ h => h)⟩
/-- 'clear(m)'. -/
theorem FrAt.clear {w : World} {gm n : Nat} {B : Nat → Prop} {fr : Nat → Option (List UInt8)} (h : FrAt w gm B n fr) :
    ∃ w2, (∀ ty, (Builtin.clear_ #[43] ty #[.map (some gm)]).run Tryd.prog w = .ok (.tuple #[]) w2) ∧ FrAt w2 gm B n (fun _ => none) ∧ w.mapTurned w2 gm := by
  obtain ⟨k, D, ⟨es, c, hb, F, hs, hD⟩, _⟩ := h
  refine ⟨setBlock w gm (.map #[] c), fun ty => ?_, ⟨0, .map [], ⟨#[], c, heap_setBlock_same hb _, ⟨by simp, MapKept.stamped_empty c, by simp⟩, Nat.le_refl _, rfl⟩, fun kl hkl => (by simp [Maps.has] at hkl), fun i b hi => (by cases hi)⟩, ⟨es, c, #[], c, hb, rfl⟩⟩
  simp [Builtin.clear_, run_underlying Tryd.underlying43, MapKept.run_getObj_map hb, MapKept.run_setObj_map _ hb, Result.andThen]
  rfl
end Go.Proofs.YtgjgnieobbhepaaDoor
