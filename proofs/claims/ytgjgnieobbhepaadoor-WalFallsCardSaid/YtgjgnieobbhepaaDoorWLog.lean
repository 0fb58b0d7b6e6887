/- The log as plain mathematics: sectors in a row, areas, what a disk holds, steps and changes, with or without power. -/
import Derived.Test.YtgjgnieobbhepaaDoorWMath
namespace Go.Proofs.YtgjgnieobbhepaaDoor
namespace L

/-! ### Sectors in a row -/
def cat (v : Nat → List UInt8) : Nat → Nat → List UInt8
  | _, 0 => []
  | i, n + 1 => v i ++ cat v (i + 1) n
def Siz (N s : Nat) (v : Nat → List UInt8) : Prop := ∀ i, i < N → (v i).length = s
theorem cat_length {v : Nat → List UInt8} {s : Nat} : ∀ {n i : Nat}, (∀ j, i ≤ j → j < i + n → (v j).length = s) → (cat v i n).length = n * s
  | 0, _, _ => by simp [cat]
  | n + 1, i, h => by
    rw [cat, List.length_append, h i (Nat.le_refl _) (by omega), cat_length (fun j h1 h2 => h j (by omega) (by omega)), Nat.add_mul]; omega
theorem cat_congr {v v' : Nat → List UInt8} : ∀ {n i : Nat}, (∀ j, i ≤ j → j < i + n → v j = v' j) → cat v i n = cat v' i n
  | 0, _, _ => rfl
  | n + 1, i, h => by rw [cat, cat, h i (Nat.le_refl _) (by omega), cat_congr (fun j h1 h2 => h j (by omega) (by omega))]
theorem cat_add {v : Nat → List UInt8} : ∀ (a b i : Nat), cat v i (a + b) = cat v i a ++ cat v (i + a) b
  | 0, b, i => by simp [cat]
  | a + 1, b, i => by rw [Nat.add_right_comm, cat, cat, cat_add a b (i + 1), List.append_assoc, show i + 1 + a = i + (a + 1) by omega]
theorem cat_drop {v : Nat → List UInt8} {s i k n : Nat} (hk : k ≤ n) (h : ∀ j, i ≤ j → j < i + n → (v j).length = s) : (cat v i n).drop (k * s) = cat v (i + k) (n - k) := by
  obtain ⟨m, rfl⟩ : ∃ m, n = k + m := ⟨n - k, by omega⟩
  have hl : (cat v i k).length = k * s := cat_length fun j h1 h2 => h j h1 (by omega)
  rw [cat_add, ← hl, List.drop_left, show k + m - k = m by omega]
theorem cat_take {v : Nat → List UInt8} {s i k n : Nat} (hk : k ≤ n) (h : ∀ j, i ≤ j → j < i + n → (v j).length = s) : (cat v i n).take (k * s) = cat v i k := by
  obtain ⟨m, rfl⟩ : ∃ m, n = k + m := ⟨n - k, by omega⟩
  have hl : (cat v i k).length = k * s := cat_length fun j h1 h2 => h j h1 (by omega)
  rw [cat_add, ← hl, List.take_left]
theorem cat_one (v : Nat → List UInt8) (i : Nat) : cat v i 1 = v i := by simp [cat]
def chunk (b : List UInt8) (s i : Nat) : List UInt8 := (b.drop (i * s)).take s
theorem chunk_length {b : List UInt8} {s i : Nat} (h : (i + 1) * s ≤ b.length) : (chunk b s i).length = s := by
  rw [Nat.add_mul] at h
  rw [chunk, List.length_take, List.length_drop]; omega
theorem cat_chunks (b : List UInt8) (s : Nat) : ∀ (k i a : Nat), a ≤ i → (i - a + k) * s ≤ b.length → cat (fun j => chunk b s (j - a)) i k = (b.drop ((i - a) * s)).take (k * s)
  | 0, i, a, _, _ => by simp [cat]
  | k + 1, i, a, h, hl => by
    rw [cat, cat_chunks b s k (i + 1) a (by omega) (by rw [show i + 1 - a + k = i - a + (k + 1) by omega]; exact hl), chunk, show i + 1 - a = (i - a) + 1 by omega, Nat.add_mul (i - a), ← List.drop_drop, Nat.add_mul k, Nat.add_comm (k * s)]
    rw [Nat.one_mul, List.take_add]

/-! ### Areas -/
def sp (N : Nat) : Nat := (N - 1) / 2
def st (N a : Nat) : Nat := 1 + a * sp N
def cap (N : Nat) : Nat := sp N - 1
theorem st_fits {N a : Nat} (hN : 1 ≤ N) (ha : a ≤ 1) : st N a + sp N ≤ N := by
  unfold st sp
  obtain rfl | rfl : a = 0 ∨ a = 1 := by omega
  · omega
  · omega
theorem cap_room {N : Nat} (hN : 16 ≤ N) : 6 ≤ cap N ∧ cap N + 1 = sp N := by unfold cap sp; omega
def magic : List UInt8 := [97, 117, 103, 117, 114, 32, 119, 97, 108, 32, 49]
def hd (a s : Nat) : List UInt8 := UInt8.ofNat (a + 1) :: (magic ++ List.replicate (s - 12) 0)
theorem hd_length {a s : Nat} (hs : 12 ≤ s) : (hd a s).length = s := by simp [hd, magic]; omega
theorem hd_ne (s : Nat) : hd 0 s ≠ hd 1 s := by intro h; have := (List.cons.inj h).1; revert this; decide
theorem hd_inj {a b s : Nat} (ha : a ≤ 1) (hb : b ≤ 1) (h : hd a s = hd b s) : a = b := by
  obtain rfl | rfl : a = 0 ∨ a = 1 := by omega
  · obtain rfl | rfl : b = 0 ∨ b = 1 := by omega
    · rfl
    · exact absurd h (hd_ne s)
  · obtain rfl | rfl : b = 0 ∨ b = 1 := by omega
    · exact absurd h.symm (hd_ne s)
    · rfl

/-! ### What a disk holds -/
def Loads (N s : Nat) (v : Nat → List UInt8) (a u : Nat) (rs : List (List UInt8)) : Prop :=
  (a ≤ 1 ∧ v 0 = hd a s ∧ Reads s (cat v (st N a) (cap N)) rs u) ∨ (v 0 ≠ hd 0 s ∧ v 0 ≠ hd 1 s ∧ a = 0 ∧ u = 0 ∧ rs = [])
theorem Loads.area {N s a u : Nat} {v : Nat → List UInt8} {rs : List (List UInt8)} (h : Loads N s v a u rs) : a ≤ 1 := by
  rcases h with ⟨h, _⟩ | ⟨_, _, h, _⟩ <;> omega
theorem Loads.unique {N s a u a' u' : Nat} {v : Nat → List UInt8} {rs rs' : List (List UInt8)} (h : Loads N s v a u rs) (h' : Loads N s v a' u' rs') : a = a' ∧ u = u' ∧ rs = rs' := by
  rcases h with ⟨h1, h2, h3⟩ | ⟨h1, h2, rfl, rfl, rfl⟩
  · rcases h' with ⟨k1, k2, k3⟩ | ⟨k1, k2, _⟩
    · obtain rfl := hd_inj h1 k1 (h2.symm.trans k2)
      obtain ⟨rfl, rfl⟩ := h3.unique k3
      exact ⟨rfl, rfl, rfl⟩
    · obtain rfl | rfl : a = 0 ∨ a = 1 := by omega
      · exact absurd h2 k1
      · exact absurd h2 k2
  · rcases h' with ⟨k1, k2, k3⟩ | ⟨_, _, rfl, rfl, rfl⟩
    · obtain rfl | rfl : a' = 0 ∨ a' = 1 := by omega
      · exact absurd k2 h1
      · exact absurd k2 h2
    · exact ⟨rfl, rfl, rfl⟩
theorem siz_area {N s a : Nat} {v : Nat → List UInt8} (hN : 16 ≤ N) (ha : a ≤ 1) (hv : Siz N s v) : ∀ j, st N a ≤ j → j < st N a + cap N → (v j).length = s := fun j _ h2 => hv j (by
  have := st_fits (N := N) (by omega) ha; have := cap_room hN; omega)
theorem Loads.used {N s a u : Nat} {v : Nat → List UInt8} {rs : List (List UInt8)} (hN : 16 ≤ N) (hs : 0 < s) (hv : Siz N s v) (h : Loads N s v a u rs) : u ≤ cap N := by
  rcases h with ⟨h1, _, h3⟩ | ⟨_, _, _, rfl, _⟩
  · exact h3.bound hs (cat_length (siz_area hN h1 hv))
  · exact Nat.zero_le _
theorem Loads.all {N s : Nat} {v : Nat → List UInt8} (hN : 16 ≤ N) (hs : 0 < s) (hv : Siz N s v) : ∃ a u rs, Loads N s v a u rs := by
  by_cases h0 : v 0 = hd 0 s
  · obtain ⟨rs, u, h, _⟩ := Reads.all hs (cap N) _ (cat_length (siz_area hN (a := 0) (by omega) hv))
    exact ⟨0, u, rs, .inl ⟨by omega, h0, h⟩⟩
  · by_cases h1 : v 0 = hd 1 s
    · obtain ⟨rs, u, h, _⟩ := Reads.all hs (cap N) _ (cat_length (siz_area hN (a := 1) (by omega) hv))
      exact ⟨1, u, rs, .inl ⟨by omega, h1, h⟩⟩
    · exact ⟨0, 0, [], .inr ⟨h0, h1, rfl, rfl, rfl⟩⟩
theorem zeros_unmarked {s : Nat} (hs : 0 < s) (X : List UInt8) : readF s (List.replicate s 0 ++ X) = none := by
  obtain ⟨n, rfl⟩ : ∃ n, s = n + 1 := ⟨s - 1, by omega⟩
  exact readF_unmarked (by simp [List.replicate_succ])
/-- Behind a first sector that is no marked frame nothing is read. -/
theorem stops {s n i : Nat} {v : Nat → List UInt8} (h : n = 0 ∨ (v i ≠ [] ∧ (v i).getD 0 0 ≠ 1)) : readF s (cat v i n) = none := by
  rcases Nat.eq_zero_or_pos n with rfl | hn
  · exact readF_short (by simp [cat])
  · obtain ⟨n, rfl⟩ : ∃ m, n = m + 1 := ⟨n - 1, by omega⟩
    rcases h with h | ⟨h0, h⟩
    · omega
    · refine readF_unmarked ?_
      rw [cat]
      cases hv : v i with
      | nil => exact absurd hv h0
      | cons x l => rw [hv] at h; simpa using h
/-- The frames that an area holds, where their own sectors stay, and what is read behind them. -/
theorem area_again {N s a u u' : Nat} {v v' : Nat → List UInt8} {rs rs' : List (List UInt8)} (hN : 16 ≤ N) (hs : 0 < s) (ha : a ≤ 1) (hv : Siz N s v) (hv' : Siz N s v') (h : Reads s (cat v (st N a) (cap N)) rs u)
    (hk : ∀ j, st N a ≤ j → j < st N a + u → v' j = v j) (h' : Reads s (cat v' (st N a + u) (cap N - u)) rs' u') : Reads s (cat v' (st N a) (cap N)) (rs ++ rs') (u + u') := by
  have hl := cat_length (siz_area hN ha hv)
  have hl' := cat_length (siz_area hN ha hv')
  have hu : u ≤ cap N := h.bound hs hl
  refine h.again hs hl ?_ (hl'.trans hl.symm) ?_
  · rw [cat_take hu (siz_area hN ha hv), cat_take hu (siz_area hN ha hv')]
    exact cat_congr fun j h1 h2 => (hk j h1 h2).symm
  · rw [cat_drop hu (siz_area hN ha hv')]; exact h'
theorem area_same {N s a u : Nat} {v v' : Nat → List UInt8} {rs : List (List UInt8)} (hN : 16 ≤ N) (hs : 0 < s) (ha : a ≤ 1) (hv : Siz N s v) (hv' : Siz N s v') (h : Reads s (cat v (st N a) (cap N)) rs u)
    (hk : ∀ j, st N a ≤ j → j < st N a + u → v' j = v j) (h' : readF s (cat v' (st N a + u) (cap N - u)) = none) : Reads s (cat v' (st N a) (cap N)) rs u := by
  have := area_again hN hs ha hv hv' h hk (.stop h')
  simpa using this
/-- A frame that lies marked behind the others, with no frame behind it. -/
theorem area_more {N s a u : Nat} {v v' : Nat → List UInt8} {rs new : List (List UInt8)} (hN : 16 ≤ N) (hs : 0 < s) (ha : a ≤ 1) (hv : Siz N s v) (hv' : Siz N s v') (h : Reads s (cat v (st N a) (cap N)) rs u)
    (hk : ∀ j, st N a ≤ j → j < st N a + u → v' j = v j) (h0 : new ≠ []) (hb : (body new).length < 4294967296) (hl : ∀ r ∈ new, r.length < 4294967296) (hfit : u + nsec new s ≤ cap N)
    (hf : ∀ j, j < nsec new s → v' (st N a + u + j) = chunk (frame 1 new s) s j) (hz : v' (st N a + u + nsec new s) = List.replicate s 0) : Reads s (cat v' (st N a) (cap N)) (rs ++ new) (u + nsec new s) := by
  refine area_again hN hs ha hv hv' h hk ?_
  have hfl := frame_length 1 new hs
  obtain ⟨m, hm⟩ : ∃ m, cap N - u = nsec new s + m := ⟨cap N - u - nsec new s, by omega⟩
  have e1 : cat v' (st N a + u) (nsec new s) = (frame 1 new s).take (nsec new s * s) := by
    have e2 : cat v' (st N a + u) (nsec new s) = cat (fun j => chunk (frame 1 new s) s (j - (st N a + u))) (st N a + u) (nsec new s) := cat_congr fun j h1 h2 => by
      have := hf (j - (st N a + u)) (by omega)
      rw [show st N a + u + (j - (st N a + u)) = j by omega] at this
      exact this
    rw [e2, cat_chunks _ _ _ _ _ (Nat.le_refl _) (by rw [hfl, Nat.sub_self, Nat.zero_add, Nat.add_mul]; omega)]
    simp
  have hroom := nsec_room h0 hs
  have e3 : cat v' (st N a + u) (cap N - u) = core 1 new ++ (List.replicate (nsec new s * s - (9 + (body new).length)) 0 ++ cat v' (st N a + u + nsec new s) m) := by
    rw [hm, cat_add, e1, frame, if_neg h0, List.take_append, List.take_of_length_le (by rw [core_length]; omega), core_length, List.take_replicate, List.append_assoc]
    congr 3
    rw [Nat.add_mul]; omega
  rw [e3]
  have hr := readF_core h0 hb hl (List.replicate (nsec new s * s - (9 + (body new).length)) 0 ++ cat v' (st N a + u + nsec new s) m) (s := s)
  have := Reads.more hr (rs := []) (u := 0) (.stop (by
    rw [← e3, cat_drop (by omega) (fun j h1 h2 => siz_area hN ha hv' j (by omega) (by omega)), show cap N - u - nsec new s = m by omega]
    refine stops (.inr ?_)
    obtain ⟨n, rfl⟩ : ∃ n, s = n + 1 := ⟨s - 1, by omega⟩
    rw [hz]; simp [List.replicate_succ]))
  simpa using this

/-! ### A log that the disk is sure to hold -/
structure Set (N s : Nat) (v : Nat → List UInt8) (a u : Nat) (rs : List (List UInt8)) : Prop where
  low : a ≤ 1
  head : v 0 = hd a s
  area : Reads s (cat v (st N a) (cap N)) rs u
  stop : v (st N a + u) = List.replicate s 0
theorem Set.loads {N s a u : Nat} {v : Nat → List UInt8} {rs : List (List UInt8)} (h : Set N s v a u rs) : Loads N s v a u rs := .inl ⟨h.low, h.head, h.area⟩

/-! ### Steps -/
def upd (s : Nat) (v : Nat → List UInt8) (t : Nat × List UInt8) : Nat → List UInt8 := fun i => if t.1 ≤ i ∧ i < t.1 + t.2.length / s then chunk t.2 s (i - t.1) else v i
/-- A step of which some sectors have been written. -/
def Part (s : Nat) (v : Nat → List UInt8) (t : Nat × List UInt8) (v' : Nat → List UInt8) : Prop := ∀ i, v' i = v i ∨ (t.1 ≤ i ∧ i < t.1 + t.2.length / s ∧ v' i = chunk t.2 s (i - t.1))
def SafeRun (N s : Nat) (P Q : (Nat → List UInt8) → Prop) : (Nat → List UInt8) → List (Nat × List UInt8) → Prop
  | v, [] => Q v
  | v, t :: r => t.2.length % s = 0 ∧ t.1 + t.2.length / s ≤ N ∧ (∀ v', Siz N s v' → Part s v t v' → P v') ∧ SafeRun N s P Q (upd s v t) r
theorem SafeRun.append {N s : Nat} {P Q R : (Nat → List UInt8) → Prop} : ∀ {l m : List (Nat × List UInt8)} {v : Nat → List UInt8}, SafeRun N s P R v l → (∀ v', R v' → SafeRun N s P Q v' m) → SafeRun N s P Q v (l ++ m)
  | [], _, _, h, k => k _ h
  | _ :: _, _, _, ⟨h1, h2, h3, h4⟩, k => ⟨h1, h2, h3, SafeRun.append h4 k⟩
theorem SafeRun.mono {N s : Nat} {P P' Q Q' : (Nat → List UInt8) → Prop} (hP : ∀ v, P v → P' v) (hQ : ∀ v, Q v → Q' v) : ∀ {l : List (Nat × List UInt8)} {v : Nat → List UInt8}, SafeRun N s P Q v l → SafeRun N s P' Q' v l
  | [], _, h => hQ _ h
  | _ :: _, _, ⟨h1, h2, h3, h4⟩ => ⟨h1, h2, fun v' a b => hP _ (h3 v' a b), SafeRun.mono hP hQ h4⟩
theorem upd_siz {N s : Nat} {v : Nat → List UInt8} {t : Nat × List UInt8} (hs : 0 < s) (hv : Siz N s v) : Siz N s (upd s v t) := fun i hi => by
  unfold upd; split
  · rename_i h
    refine chunk_length ?_
    have h1 : i - t.1 + 1 ≤ t.2.length / s := by omega
    have := Nat.mul_le_mul_right s h1
    have := Nat.div_mul_le_self t.2.length s
    omega
  · exact hv i hi
theorem one_sector {s : Nat} (hs : 0 < s) {b : List UInt8} (hb : b.length = s) : b.length / s = 1 ∧ b.length % s = 0 ∧ chunk b s 0 = b := by
  rw [hb]
  refine ⟨Nat.div_self hs, Nat.mod_self s, ?_⟩
  rw [chunk, Nat.zero_mul, List.drop_zero, List.take_of_length_le (by omega)]
/-- A step of one sector: it was written or not. -/
theorem Part.one {s : Nat} (hs : 0 < s) {v v' : Nat → List UInt8} {i : Nat} {b : List UInt8} (hb : b.length = s) (h : Part s v (i, b) v') : (∀ j, v' j = v j) ∨ (∀ j, v' j = if j = i then b else v j) := by
  obtain ⟨e1, _, e3⟩ := one_sector hs hb
  unfold Part at h
  simp only [e1] at h
  rcases h i with h1 | ⟨_, _, h1⟩
  · left
    intro j
    rcases h j with h2 | ⟨h2, h3, h4⟩
    · exact h2
    · obtain rfl : j = i := by omega
      exact h1
  · right
    intro j
    by_cases hj : j = i
    · subst hj; rw [if_pos rfl, h1, Nat.sub_self, e3]
    · rw [if_neg hj]
      rcases h j with h2 | ⟨h2, h3, h4⟩
      · exact h2
      · omega
theorem upd_one {s : Nat} (hs : 0 < s) {v : Nat → List UInt8} {i : Nat} {b : List UInt8} (hb : b.length = s) (j : Nat) : upd s v (i, b) j = if j = i then b else v j := by
  obtain ⟨e1, _, e3⟩ := one_sector hs hb
  unfold upd
  simp only [e1]
  by_cases hj : j = i
  · subst hj; rw [if_pos (by omega), if_pos rfl, Nat.sub_self, e3]
  · rw [if_neg (by omega), if_neg hj]
theorem Loads.congr {N s a u : Nat} {v v' : Nat → List UInt8} {rs : List (List UInt8)} (h : Loads N s v a u rs) (h0 : v' 0 = v 0) (hk : ∀ j, st N a ≤ j → j < st N a + cap N → v' j = v j) : Loads N s v' a u rs := by
  rcases h with ⟨h1, h2, h3⟩ | ⟨h1, h2, h3⟩
  · exact .inl ⟨h1, h0.trans h2, by rw [cat_congr hk]; exact h3⟩
  · exact .inr ⟨by rw [h0]; exact h1, by rw [h0]; exact h2, h3⟩

section
variable {N s a u : Nat} {v : Nat → List UInt8} {rs : List (List UInt8)}
/-- The end of a log's frames is written over by zeros. -/
theorem Loads.zeroed {v' : Nat → List UInt8} (hN : 16 ≤ N) (hs : 0 < s) (hv : Siz N s v) (hv' : Siz N s v') (h : Loads N s v a u rs) (hk : ∀ j, j ≠ st N a + u → v' j = v j) (hz : v' (st N a + u) = v (st N a + u) ∨ v' (st N a + u) = List.replicate s 0) : Loads N s v' a u rs := by
  have hne : st N a + u ≠ 0 := by unfold st; omega
  rcases h with ⟨h1, h2, h3⟩ | ⟨h1, h2, h3⟩
  · refine .inl ⟨h1, by rw [hk 0 (Ne.symm hne)]; exact h2, area_same hN hs h1 hv hv' h3 (fun j _ hj => hk j (by omega)) ?_⟩
    rcases hz with hz | hz
    · have e : ∀ j, v' j = v j := fun j => by
        by_cases hj : j = st N a + u
        · rw [hj]; exact hz
        · exact hk j hj
      rw [cat_congr (v' := v) (fun j _ _ => e j)]
      have := h3.ends
      rwa [cat_drop (h3.bound hs (cat_length (siz_area hN h1 hv))) (siz_area hN h1 hv)] at this
    · refine stops (.inr ?_)
      obtain ⟨n, rfl⟩ : ∃ n, s = n + 1 := ⟨s - 1, by omega⟩
      rw [hz]; simp [List.replicate_succ]
  · have e0 := hk 0 (Ne.symm hne)
    exact .inr ⟨by rw [e0]; exact h1, by rw [e0]; exact h2, h3⟩
def settleSteps (N s a u : Nat) : List (Nat × List UInt8) := [(st N a + u, List.replicate s 0), (0, hd a s)]
theorem settle_safe (hN : 16 ≤ N) (hs : 12 ≤ s) (hv : Siz N s v) (h : Loads N s v a u rs) : SafeRun N s (fun v' => Loads N s v' a u rs) (fun v' => Siz N s v' ∧ Set N s v' a u rs) v (settleSteps N s a u) := by
  have hs0 : 0 < s := by omega
  have ha := h.area
  have hu := h.used hN hs0 hv
  have hst := st_fits (N := N) (by omega) ha
  have hcap := cap_room hN
  have hlz : (List.replicate s (0 : UInt8)).length = s := by simp
  have hlh : (hd a s).length = s := hd_length hs
  have hne : st N a + u ≠ 0 := by unfold st; omega
  obtain ⟨z1, z2, _⟩ := one_sector hs0 hlz
  obtain ⟨k1, k2, _⟩ := one_sector hs0 hlh
  have hv1 : Siz N s (upd s v (st N a + u, List.replicate s 0)) := upd_siz hs0 hv
  have e1 := fun j => upd_one hs0 (v := v) (i := st N a + u) hlz j
  have hl1 : Loads N s (upd s v (st N a + u, List.replicate s 0)) a u rs := h.zeroed hN hs0 hv hv1 (fun j hj => by rw [e1, if_neg hj]) (.inr (by rw [e1, if_pos rfl]))
  have hv2 : Siz N s (upd s (upd s v (st N a + u, List.replicate s 0)) (0, hd a s)) := upd_siz hs0 hv1
  have e2 := fun j => upd_one hs0 (v := upd s v (st N a + u, List.replicate s 0)) (i := 0) hlh j
  -- what the area reads as behind the head
  have hset : ∀ v', Siz N s v' → (∀ j, v' j = if j = 0 then hd a s else upd s v (st N a + u, List.replicate s 0) j) → Set N s v' a u rs := by
    intro v' hv' e
    have hz : v' (st N a + u) = List.replicate s 0 := by rw [e, if_neg hne, e1, if_pos rfl]
    refine ⟨ha, by rw [e, if_pos rfl], ?_, hz⟩
    rcases hl1 with ⟨_, _, h3⟩ | ⟨_, _, rfl, rfl, rfl⟩
    · rw [cat_congr (v' := upd s v (st N a + u, List.replicate s 0)) (fun j h1 _ => by rw [e, if_neg (by unfold st at h1; omega)])]
      exact h3
    · refine .stop (stops (.inr ?_))
      obtain ⟨n, rfl⟩ : ∃ n, s = n + 1 := ⟨s - 1, by omega⟩
      rw [Nat.add_zero] at hz
      rw [hz]; simp [List.replicate_succ]
  refine ⟨z2, by simp only [z1]; omega, fun v' hs' hp => ?_, k2, by simp only [k1]; omega, fun v' hs' hp => ?_, hv2, hset _ hv2 e2⟩
  · rcases hp.one hs0 hlz with hp | hp
    · exact h.zeroed hN hs0 hv hs' (fun j _ => hp j) (.inl (hp _))
    · exact h.zeroed hN hs0 hv hs' (fun j hj => by rw [hp, if_neg hj]) (.inr (by rw [hp, if_pos rfl]))
  · rcases hp.one hs0 hlh with hp | hp
    · exact hl1.congr (hp 0) (fun j _ _ => hp j)
    · exact (hset v' hs' hp).loads
end
/-! ### A frame's sectors -/
section
variable {new : List (List UInt8)} {s : Nat}
theorem frame_chunk_last (mark : UInt8) (hs : 0 < s) : chunk (frame mark new s) s (nsec new s) = List.replicate s 0 := by
  unfold chunk frame
  split
  · rename_i h; subst h; simp [nsec_nil]
  · rename_i h
    have hr := nsec_room h hs
    rw [List.drop_append, List.drop_eq_nil_of_le (by rw [core_length]; omega), List.nil_append, core_length, List.drop_replicate, List.take_replicate]
    congr 1
    rw [Nat.add_mul]; omega
theorem frame_div (mark : UInt8) (hs : 0 < s) : (frame mark new s).length / s = nsec new s + 1 ∧ (frame mark new s).length % s = 0 := by
  rw [frame_length mark new hs]
  exact ⟨Nat.mul_div_cancel _ hs, Nat.mul_mod_left _ _⟩
/-- The mark stands in the first byte alone. -/
theorem frame_marks (h : new ≠ []) : ∃ X : List UInt8, ∀ mark, frame mark new s = mark :: X := ⟨_, fun mark => by rw [frame, if_neg h]; rfl⟩
theorem frame_chunk_mark (hs : 0 < s) (j : Nat) (hj : 0 < j) (m m' : UInt8) : chunk (frame m new s) s j = chunk (frame m' new s) s j := by
  by_cases h : new = []
  · subst h; rfl
  · obtain ⟨X, hX⟩ := frame_marks (s := s) h
    unfold chunk
    rw [hX m, hX m']
    obtain ⟨n, hn⟩ : ∃ n, j * s = n + 1 := ⟨j * s - 1, by have := Nat.mul_le_mul_right s hj; omega⟩
    rw [hn, List.drop_succ_cons, List.drop_succ_cons]
theorem frame_first (hs : 0 < s) (h : new ≠ []) (mark : UInt8) : chunk (frame mark new s) s 0 = (frame mark new s).take s ∧ ((frame mark new s).take s).length = s ∧ ((frame mark new s).take s).getD 0 0 = mark := by
  refine ⟨by simp [chunk], ?_, ?_⟩
  · rw [List.length_take, frame_length mark new hs, Nat.add_mul]; omega
  · obtain ⟨X, hX⟩ := frame_marks (s := s) h
    obtain ⟨n, rfl⟩ : ∃ n, s = n + 1 := ⟨s - 1, by omega⟩
    rw [hX]; rfl
end
end L
end Go.Proofs.YtgjgnieobbhepaaDoor
