/- A disk's lose and Crash where nothing is torn. -/
import Derived.Test.YtgjgnieobbhepaaDoorDKeys
namespace Go.Proofs.YtgjgnieobbhepaaDoor
open Go.RowKit Go.Maps

theorem leI_trans : ∀ a b c : Int, (fun x y : Int => decide (x ≤ y)) a b = true → (fun x y : Int => decide (x ≤ y)) b c = true → (fun x y : Int => decide (x ≤ y)) a c = true := fun a b c h1 h2 => by simp only [decide_eq_true_eq] at *; omega
theorem leI_total : ∀ a b : Int, ((fun x y : Int => decide (x ≤ y)) a b || (fun x y : Int => decide (x ≤ y)) b a) = true := fun a b => by simp only [Bool.or_eq_true, decide_eq_true_eq]; omega
/-- The sorted keys are the fresh sectors' numbers. -/
theorem sorted_keys {w : World} {gm k : Nat} {D : DataW Value} {d : Dk} {ss : List Int} (ho : w.ownsMap Tryd.prog 3 Raw gm k D) (h1 : ∀ kl, Maps.has D kl = true → ∃ i, i < d.dur.length ∧ kl = key i ∧ (d.fr i).isSome)
    (h2 : ∀ i b, d.fr i = some b → Maps.has D (key i) = true) (h3 : ∀ i, (d.fr i).isSome → i < d.dur.length) (hp : ss.Perm (intKeys D)) : ss.mergeSort (fun x y => decide (x ≤ y)) = d.keys.map fun i : Nat => (i : Int) := by
  obtain ⟨L, hD, hd, hL⟩ := own_entries ho
  subst hD
  have hk : ∀ kl, Maps.has (.map L) kl = true → ∃ i, i < d.dur.length ∧ kl = key i := fun kl h => by obtain ⟨i, q1, q2, _⟩ := h1 kl h; exact ⟨i, q1, q2⟩
  have hki : intKeys (.map L) = (L.map idx).map fun i : Nat => (i : Int) := by
    show L.map (fun p => Go.intOf p.1) = _
    rw [List.map_map]
    refine List.map_congr_left fun p hp => ?_
    obtain ⟨e, _⟩ := idx_key hk hL hp
    show Go.intOf p.1 = ((idx p : Nat) : Int)
    rw [e]; rfl
  have hperm : (ss.mergeSort (fun x y => decide (x ≤ y))).Perm ((L.map idx).map fun i : Nat => (i : Int)) := (List.mergeSort_perm ss _).trans (hki ▸ hp)
  obtain ⟨ks, hks⟩ : ∃ ks : List Nat, ss.mergeSort (fun x y => decide (x ≤ y)) = ks.map fun i : Nat => (i : Int) := by
    refine ⟨(ss.mergeSort (fun x y => decide (x ≤ y))).map Int.toNat, ?_⟩
    rw [List.map_map]
    conv => lhs; rw [← List.map_id (ss.mergeSort (fun x y => decide (x ≤ y)))]
    refine List.map_congr_left fun x hx => ?_
    obtain ⟨i, _, rfl⟩ := List.mem_map.1 (hperm.mem_iff.1 hx)
    simp
  rw [hks] at hperm ⊢
  have hinj : ∀ (l m : List Nat), (l.map fun i : Nat => (i : Int)).Perm (m.map fun i : Nat => (i : Int)) → l.Perm m := fun l m h => by
    have := h.map Int.toNat
    simpa [List.map_map, Function.comp_def] using this
  have hp2 := hinj _ _ hperm
  have hnd : ks.Nodup := hp2.nodup_iff.2 (idx_nodup hk hL hd)
  have hle : ks.Pairwise (· ≤ ·) := by
    have := List.pairwise_mergeSort leI_trans leI_total ss
    rw [hks, List.pairwise_map] at this
    exact this.imp fun {a b} h => by simp only [decide_eq_true_eq] at h; omega
  have hlt : ks.Pairwise (· < ·) := (hle.and hnd).imp fun {a b} h => by have := h.1; have := h.2; omega
  rw [rising_eq hlt (Dk.keys_sorted d) fun x => ?_]
  rw [hp2.mem_iff]
  simp only [Dk.keys, List.mem_filter, List.mem_range]
  constructor
  · intro hx
    obtain ⟨p, hp, rfl⟩ := List.mem_map.1 hx
    obtain ⟨e, hi⟩ := idx_key hk hL hp
    obtain ⟨i, q1, q2, q3⟩ := h1 p.1 (entries_has hL hp)
    have : i = idx p := key_inj (by rw [← q2, e])
    subst this
    exact ⟨hi, q3⟩
  · rintro ⟨hx, hs⟩
    obtain ⟨b, hb⟩ := Option.isSome_iff_exists.1 hs
    have h9 := h2 x b hb
    rw [Maps.has_eq, List.any_eq_true] at h9
    obtain ⟨p, hp, hsk⟩ := h9
    refine List.mem_map.2 ⟨p, hp, ?_⟩
    have e1 := WideAt.sameKey_eq hsk
    exact key_inj (by rw [← (idx_key hk hL hp).1, e1])
/-- The first k of the fresh sectors have been asked. -/
def Dk.loseTo (d : Dk) (keep k : Nat) : Dk := { d with fr := fun i => if Dk.rank d.fr i < k ∧ keep / 2 ^ (Dk.rank d.fr i % 64) % 2 = 0 then none else d.fr i }
theorem Dk.loseTo_zero (d : Dk) (keep : Nat) : d.loseTo keep 0 = d := by unfold loseTo; simp
theorem Dk.loseTo_all (d : Dk) (h : d.Ok) (keep k : Nat) (hk : d.keys.length ≤ k) : d.loseTo keep k = d.lose keep := by
  unfold loseTo lose
  congr 1
  funext i
  cases hf : d.fr i with
  | none => simp
  | some b =>
    have hi := (h.fr i b hf).1
    have hm : i ∈ d.keys := by simp [keys, hi, hf]
    obtain ⟨j, hj, e⟩ := List.getElem_of_mem hm
    have h9 : d.keys[j]? = some i := by rw [List.getElem?_eq_getElem hj, e]
    have := (rank_keys h9).1
    have hr : rank d.fr i < k := by omega
    simp [hr]
theorem Dk.loseTo_keep (d : Dk) (keep k i : Nat) (h : d.keys[k]? = some i) (hb : keep / 2 ^ (k % 64) % 2 ≠ 0) : d.loseTo keep (k + 1) = d.loseTo keep k := by
  unfold loseTo
  congr 1
  funext j
  by_cases hj : rank d.fr j = k
  · have e1 : ¬ (rank d.fr j < k + 1 ∧ keep / 2 ^ (rank d.fr j % 64) % 2 = 0) := by rw [hj]; exact fun x => hb x.2
    have e2 : ¬ (rank d.fr j < k ∧ keep / 2 ^ (rank d.fr j % 64) % 2 = 0) := by rw [hj]; omega
    rw [if_neg e1, if_neg e2]
  · by_cases hlt : rank d.fr j < k
    · have h1 : rank d.fr j < k + 1 := by omega
      simp [hlt, h1]
    · have h1 : ¬ rank d.fr j < k + 1 := by omega
      simp [hlt, h1]
theorem Dk.loseTo_drop (d : Dk) (hok : d.Ok) (keep k i : Nat) (h : d.keys[k]? = some i) (hb : keep / 2 ^ (k % 64) % 2 = 0) : d.loseTo keep (k + 1) = { d.loseTo keep k with fr := fun j => if j = i then none else (d.loseTo keep k).fr j } := by
  unfold loseTo
  congr 1
  funext j
  have hr := (rank_keys h).1
  by_cases hji : j = i
  · subst hji
    have e1 : rank d.fr j < k + 1 ∧ keep / 2 ^ (rank d.fr j % 64) % 2 = 0 := by rw [hr]; exact ⟨by omega, hb⟩
    rw [if_pos e1, if_pos rfl]
  · rw [if_neg hji]
    by_cases hj : rank d.fr j = k
    · -- another sector of the same rank is not fresh
      cases hf : d.fr j with
      | none => simp [hf]
      | some b =>
        have hjl := (hok.fr j b hf).1
        have hm : j ∈ d.keys := by simp [keys, hjl, hf]
        obtain ⟨m, hm1, e⟩ := List.getElem_of_mem hm
        have h9 : d.keys[m]? = some j := by rw [List.getElem?_eq_getElem hm1, e]
        have := (rank_keys h9).1
        have : m = k := by omega
        subst this
        rw [h9] at h
        exact absurd (Option.some.inj h) hji
    · by_cases hlt : rank d.fr j < k
      · have h1 : rank d.fr j < k + 1 := by omega
        simp [hlt, h1]
      · have h1 : ¬ rank d.fr j < k + 1 := by omega
        simp [hlt, h1]
theorem ok_loseTo {d : Dk} (h : d.Ok) (keep k : Nat) : (d.loseTo keep k).Ok := by
  refine ⟨h.size, h.secs, h.len, fun i b hb => ?_, h.left⟩
  simp only [Dk.loseTo] at hb ⊢
  split at hb
  · cases hb
  · exact h.fr i b hb
theorem DskAt.refr {w w' : World} {h : DH} {B : Nat → Prop} {d d' : Dk} (x : DskAt w h B d) (hk : Keeps [h.gm] w w') (hok : d'.Ok) (h1 : d'.size = d.size) (h2 : d'.dur = d.dur) (h3 : d'.dead = d.dead) (h4 : d'.cut = d.cut) (h5 : d'.left = d.left) (hf : FrAt w' h.gm B d.dur.length d'.fr) : DskAt w' h B d' := by
  have hne := x.ne
  have hS : ∀ y ∈ [h.gm], ¬ B y := fun y hy => by simp at hy; rw [hy]; exact x.sep.2.2
  obtain ⟨cap, hb⟩ := x.box
  obtain ⟨vs, hr, hv⟩ := x.rows
  refine ⟨hok, ⟨cap, by rw [h1, h2, h3, h4, h5]; exact block_keep hb hk (by simpa using hne.2.1)⟩, ⟨vs, block_keep hr hk (by simpa using hne.2.2), fun i hi => ?_⟩, by rw [h2]; exact hf, x.sep, fun y hy => Nat.lt_of_lt_of_le (x.low y hy) hk.size⟩
  obtain ⟨v, q1, q2⟩ := hv i (by rw [h2] at hi; exact hi)
  refine ⟨v, q1, ?_⟩
  have e : d'.dur[i] = d.dur[i]'(by rw [h2] at hi; exact hi) := by simp only [h2]
  rw [e]
  exact q2.keep hk hS (fun _ h => h)
/-- Behind 'delete(m, i)'. -/
theorem FrAt.drop_of {w w2 : World} {gm n i k : Nat} {B : Nat → Prop} {fr : Nat → Option (List UInt8)} {D : DataW Value} (h1 : ∀ kl, Maps.has D kl = true → ∃ i, i < n ∧ kl = key i ∧ (fr i).isSome)
    (h2 : ∀ i b, fr i = some b → Maps.has D (key i) = true ∧ ∃ v, (∀ z, D.atKey (key i) z = .held v) ∧ SecV w B v b) (ho2 : w2.ownsMap Tryd.prog 3 Raw gm k (D.del (key i))) (ht : w.mapTurned w2 gm) (hgm : ¬ B gm) : FrAt w2 gm B n (fun j => if j = i then none else fr j) := by
  have hk2 : Keeps [gm] w w2 := turned_keeps ht
  refine ⟨k, _, ho2, fun kl hkl => ?_, fun j c hj => ?_⟩
  · by_cases e : kl = key i
    · rw [e, Maps.has_del_same] at hkl; cases hkl
    · rw [Maps.has_del_other e] at hkl
      obtain ⟨j, hj, e2, hjs⟩ := h1 kl hkl
      refine ⟨j, hj, e2, ?_⟩
      have hji : j ≠ i := fun e3 => e (by rw [e2, e3])
      simp [hji, hjs]
  · by_cases hji : j = i
    · simp [hji] at hj
    · simp only [hji, if_false] at hj
      have hne : key j ≠ key i := fun e => hji (key_inj e)
      obtain ⟨h3, v', h4, h5⟩ := h2 j c hj
      exact ⟨by rw [Maps.has_del_other hne]; exact h3, v', fun z => by rw [Maps.atKey_del_other hne]; exact h4 z, h5.keep hk2 (fun x hx => by simp at hx; rw [hx]; exact hgm) (fun _ h => h)⟩
theorem owns_size {w : World} {gm k : Nat} {D : DataW Value} (h : w.ownsMap Tryd.prog 3 Raw gm k D) : Maps.size D ≤ k := h.size_le
def LoseP (w : World) (h : DH) (B : Nat → Prop) (d' : Dk) (e : Ending) (w' : World) : Prop := e = .returned (.tuple #[]) ∧ DskAt w' h B d' ∧ Keeps [h.gm] w w'
theorem bit_of (keep j : Nat) (h : keep < 18446744073709551616) : bits .and .u64 ((keep : Int) / 2 ^ j) 1 = ((keep / 2 ^ j % 2 : Nat) : Int) := by
  have h0 : keep / 2 ^ j ≤ keep := Nat.div_le_self _ _
  have h1 := u64_and_nat (keep / 2 ^ j) 1 (by omega) (by omega)
  rw [Nat.and_one_is_mod] at h1
  have e : ((keep : Int) / 2 ^ j) = ((keep / 2 ^ j : Nat) : Int) := by simp
  rw [e]
  exact h1
set_option maxHeartbeats 4000000 in
set_option maxRecDepth 100000 in
theorem lose_any (w : World) (h : DH) (B : Nat → Prop) (d : Dk) (x : DskAt w h B d) (keep : Nat) (hkeep : keep < 18446744073709551616) (torn : Int) (ht : torn < 0) : Calls Tryd.prog 42 #[.pointer (some ⟨h.p, 0, none⟩), .int .u64 (keep : Int), .int .i64 torn, .int .i64 0] w (LoseP w h B (d.lose keep)) := by
  obtain ⟨cap, c0, c1, c2, _⟩ := x.cells
  have hn := x.ok.secs.2
  have hsz := x.ok.size
  obtain ⟨k0, D, ho0, hk1, hk2⟩ := id x.fresh
  have ho := owns_small ho0 (fun kl hkl => by obtain ⟨j, hj, e, _⟩ := hk1 kl hkl; exact ⟨j, hj, e⟩)
  have hDs := ho.size_le
  have HX := Lib.hid x
  have HO := Lib.hid ho
  have HSK := Lib.hid (fun ss hp => sorted_keys (d := d) (ss := ss) ho hk1 (fun i b hi => (hk2 i b hi).1) (fun i hi => by obtain ⟨b, hb⟩ := Option.isSome_iff_exists.1 hi; exact (x.ok.fr i b hb).1) hp)
  have hlt := x.lt
  have HNE := Lib.hid x.ne
  have hkl := Dk.keys_le d
  clear x ho0 ho hk1 hk2
  go_enter Tryd.func42, Tryd.ntmps42
  go_wp2_with fail
  refine (keys_any (some h.gm) w).mono ?_
  rintro e w1 ⟨rfl, rfl⟩
  go_wp2_with fail
  refine (sorted_any h.gm d.dur.length D w HO.out (by unfold maxLen; omega) (by omega)).mono ?_
  rintro e w2 ⟨v, ss, rfl, hperm, hrow, hnil, hkw⟩
  have hsort := HSK.out ss hperm
  rw [hsort] at hrow
  have hlen : ss.length = d.keys.length := by
    have := congrArg List.length hsort
    simpa using this
  rw [hlen] at hrow
  have HROW := Lib.hid hrow
  have HKW := Lib.hid hkw
  obtain ⟨A1, cap1, rfl⟩ : ∃ A1 cap1, v = .slice A1 d.keys.length cap1 := by
    rcases own_form hrow with ⟨rfl, h0⟩ | ⟨g, cp, rfl, _⟩
    · exact ⟨none, 0, by rw [h0]⟩
    · exact ⟨_, cp, rfl⟩
  have HX2 := Lib.hid (HX.out.keep0 hkw)
  clear hperm hrow hnil hkw hsort hlen
  go_wp2_with fail
  go_loopw [24] (fun i wr => ∃ k : Nat, k ≤ d.keys.length ∧ i = .int .i64 (k : Int) ∧ DskAt wr h B (d.loseTo keep k) ∧ Keeps [h.gm] w2 wr) (fun i _ => d.keys.length - (intOf i).toNat)
  case atStart => exact ⟨0, Nat.zero_le _, rfl, by rw [Dk.loseTo_zero]; exact HX2.out, Keeps.refl _ _⟩
  case round =>
    obtain ⟨k, hk, rfl, hxk, hkk⟩ := hrel
    have HXK := Lib.hid hxk
    have HKK := Lib.hid hkk
    by_cases hkt : k < d.keys.length
    · obtain ⟨i, hi⟩ : ∃ i, d.keys[k]? = some i := ⟨_, List.getElem?_eq_getElem hkt⟩
      have hin := (Dk.rank_keys hi).2.1
      obtain ⟨g1, hA, hg1⟩ : ∃ g1, A1 = some ⟨g1, 0, none⟩ ∧ w.heap.size ≤ g1 := by
        rcases own_form HROW.out with ⟨h0, h1⟩ | ⟨g, cp, h0, h1, _⟩
        · omega
        · cases h0; exact ⟨g, rfl, h1⟩
      subst hA
      have hcell : w2.cell? ⟨g1, k, none⟩ = some (.int .i64 (i : Int)) := by
        have := HROW.out.cells (g := g1) rfl k (.int .i64 (i : Int)) (by
          have e : ((d.keys.map fun i : Nat => (i : Int)).map encZ)[k]? = some (.int .i64 (i : Int)) := by
            rw [List.getElem?_map, List.getElem?_map, hi]; rfl
          exact e)
        rw [Addr.add_lit, Nat.zero_add] at this
        exact this
      have hc1 : wr.cell? ⟨g1, k, none⟩ = some (.int .i64 (i : Int)) := hkk.cell_some hcell (by simp; omega)
      obtain ⟨capk, _, _, m2, _⟩ := hxk.cells
      have et : (((k : Nat) : Int) == torn) = false := by rw [beq_eq_false_iff_ne]; omega
      have HI := Lib.hid hi
      clear hxk hkk hcell hi
      have hbit : bits .and .u64 ((keep : Int) / 2 ^ (k % 64)) 1 = ((keep / 2 ^ (k % 64) % 2 : Nat) : Int) := bit_of keep (k % 64) hkeep
      by_cases hb : keep / 2 ^ (k % 64) % 2 = 0
      · have eb : (bits .and .u64 ((keep : Int) / 2 ^ (k % 64)) 1 == 0) = true := by rw [hbit, beq_iff_eq]; omega
        have HEQ := Lib.hid (d.loseTo_drop HX.out.ok keep k i HI.out hb)
        obtain ⟨kk, Dk1, hok, hq1, hq2⟩ := HXK.out.fresh
        have HOK := Lib.hid hok
        have HQ1 := Lib.hid hq1
        have HQ2 := Lib.hid hq2
        clear hb hbit hok hq1 hq2
        go_wp2_with (at_delete; refine wpList_delete_own _ rfl _ _ 43 3 rfl 34 keyLaw Tryd.underlying43 Raw h.gm kk Dk1 rfl HOK.out _ (key i) rfl (key_of (by omega)) ?_)
        intro w5 ho5 ht5
        have HF5 := Lib.hid (FrAt.drop_of HQ1.out HQ2.out ho5 ht5 HX.out.sep.2.2)
        have HK5 := Lib.hid (turned_keeps ht5)
        clear ho5 ht5
        go_wp2_with fail
        go_roundw
        case rel => exact ⟨k + 1, by omega, by go_num, by rw [HEQ.out]; exact HXK.out.refr HK5.out (by rw [← HEQ.out]; exact ok_loseTo HX.out.ok keep _) rfl rfl rfl rfl rfl HF5.out, HKK.out.trans HK5.out (fun _ h _ => h)⟩
        case measure => simp [intOf]; omega
      · have eb : (bits .and .u64 ((keep : Int) / 2 ^ (k % 64)) 1 == 0) = false := by rw [hbit, beq_eq_false_iff_ne]; omega
        have hb1 : keep / 2 ^ (k % 64) % 2 ≠ 0 := hb
        have HEQ := Lib.hid (d.loseTo_keep keep k i HI.out hb1)
        clear hb hb1 hbit
        go_wp2_with fail
        go_roundw
        case rel => exact ⟨k + 1, by omega, by go_num, by rw [HEQ.out]; exact HXK.out, HKK.out⟩
        case measure => simp [intOf]; omega
    · have HE := Lib.hid (show d.loseTo keep k = d.lose keep from d.loseTo_all HX.out.ok keep k (by omega))
      clear hxk hkk
      go_wp2_with fail
      go_end0
      rw [HE.out] at HXK
      exact ⟨rfl, HXK.out, (HKW.out.mono (T := [h.gm]) (by simp)).trans HKK.out (fun _ h _ => h)⟩
end Go.Proofs.YtgjgnieobbhepaaDoor
