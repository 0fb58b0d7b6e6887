/- The log as plain mathematics: what Commit and Reset write is safe; a disk that is written step by step, with or without power. -/
import Derived.Test.YtgjgnieobbhepaaDoorWLog
namespace Go.Proofs.YtgjgnieobbhepaaDoor
namespace L

section
variable {N s a u : Nat} {v : Nat → List UInt8} {rs new : List (List UInt8)}
def commitSteps (N s a u : Nat) (new : List (List UInt8)) : List (Nat × List UInt8) := [(st N a + u, frame 0 new s), (st N a + u, (frame 1 new s).take s)]
theorem commit_safe (hN : 16 ≤ N) (hs : 12 ≤ s) (hv : Siz N s v) (h : Set N s v a u rs) (h0 : new ≠ []) (hb : (body new).length < 4294967296) (hl : ∀ r ∈ new, r.length < 4294967296) (hfit : u + nsec new s ≤ cap N) :
    SafeRun N s (fun v' => Loads N s v' a u rs ∨ Loads N s v' a (u + nsec new s) (rs ++ new)) (fun v' => Siz N s v' ∧ Set N s v' a (u + nsec new s) (rs ++ new)) v (commitSteps N s a u new) := by
  have hs0 : 0 < s := by omega
  have hst := st_fits (N := N) (by omega) h.low
  have hcap := cap_room hN
  have hpos := nsec_pos h0 hs0
  obtain ⟨d1, d2⟩ := frame_div (new := new) 0 hs0
  obtain ⟨f1, f2, f3⟩ := frame_first (new := new) hs0 h0 1
  obtain ⟨g1, g2, g3⟩ := frame_first (new := new) hs0 h0 0
  obtain ⟨k1, k2, _⟩ := one_sector hs0 f2
  have hst0 : 1 ≤ st N a := by unfold st; omega
  have hv1 : Siz N s (upd s v (st N a + u, frame 0 new s)) := upd_siz hs0 hv
  have hv2 : Siz N s (upd s (upd s v (st N a + u, frame 0 new s)) (st N a + u, (frame 1 new s).take s)) := upd_siz hs0 hv1
  have e2 := fun j => upd_one hs0 (v := upd s v (st N a + u, frame 0 new s)) (i := st N a + u) f2 j
  have e1 : ∀ j, upd s v (st N a + u, frame 0 new s) j = if st N a + u ≤ j ∧ j < st N a + u + (nsec new s + 1) then chunk (frame 0 new s) s (j - (st N a + u)) else v j := fun j => by unfold upd; simp only [d1]
  -- part of the unmarked frame
  have hpart : ∀ v', Siz N s v' → Part s v (st N a + u, frame 0 new s) v' → Loads N s v' a u rs := by
    intro v' hs' hp
    unfold Part at hp
    simp only [d1] at hp
    have hlow : ∀ j, j < st N a + u → v' j = v j := fun j hj => by
      rcases hp j with h1 | ⟨h1, _⟩
      · exact h1
      · omega
    refine .inl ⟨h.low, by rw [hlow 0 (by omega)]; exact h.head, area_same hN hs0 h.low hv hs' h.area (fun j _ h2 => hlow j h2) (stops ?_)⟩
    by_cases hc : cap N - u = 0
    · exact .inl hc
    · right
      have hlen := hs' (st N a + u) (by omega)
      refine ⟨fun e => by rw [e] at hlen; simp at hlen; omega, ?_⟩
      rcases hp (st N a + u) with h1 | ⟨_, _, h1⟩
      · rw [h1, h.stop]
        obtain ⟨n, rfl⟩ : ∃ n, s = n + 1 := ⟨s - 1, by omega⟩
        simp [List.replicate_succ]
      · rw [h1, Nat.sub_self, g1, g3]; decide
  -- behind the mark
  have hset : ∀ v', Siz N s v' → (∀ j, v' j = if j = st N a + u then (frame 1 new s).take s else upd s v (st N a + u, frame 0 new s) j) → Set N s v' a (u + nsec new s) (rs ++ new) := by
    intro v' hs' e
    have hlow : ∀ j, j < st N a + u → v' j = v j := fun j hj => by rw [e, if_neg (by omega), e1, if_neg (by omega)]
    have hz : v' (st N a + u + nsec new s) = List.replicate s 0 := by
      rw [e, if_neg (by omega), e1, if_pos (by omega), show st N a + u + nsec new s - (st N a + u) = nsec new s by omega]
      exact frame_chunk_last 0 hs0
    refine ⟨h.low, by rw [hlow 0 (by omega)]; exact h.head, area_more hN hs0 h.low hv hs' h.area (fun j _ h2 => hlow j h2) h0 hb hl hfit (fun j hj => ?_) hz, by rw [← Nat.add_assoc]; exact hz⟩
    by_cases hj0 : j = 0
    · subst hj0; rw [Nat.add_zero, e, if_pos rfl, f1]
    · rw [e, if_neg (by omega), e1, if_pos (by omega), show st N a + u + j - (st N a + u) = j by omega]
      exact frame_chunk_mark hs0 j (by omega) 0 1
  refine ⟨d2, by simp only [d1]; omega, fun v' hs' hp => .inl (hpart v' hs' hp), k2, by simp only [k1]; omega, fun v' hs' hp => ?_, hv2, hset _ hv2 e2⟩
  rcases hp.one hs0 f2 with hp | hp
  · refine .inl (hpart v' hs' fun j => ?_)
    rw [hp, e1]
    by_cases hj : st N a + u ≤ j ∧ j < st N a + u + (nsec new s + 1)
    · rw [if_pos hj]; exact .inr ⟨hj.1, by simp only [d1]; exact hj.2, rfl⟩
    · rw [if_neg hj]; exact .inl rfl
  · exact .inr (hset v' hs' hp).loads
def resetSteps (N s b : Nat) (new : List (List UInt8)) : List (Nat × List UInt8) := [(st N b, frame 1 new s), (0, hd b s)]
theorem reset_safe (hN : 16 ≤ N) (hs : 12 ≤ s) (hv : Siz N s v) (h : Set N s v a u rs) (hb : (body new).length < 4294967296) (hl : ∀ r ∈ new, r.length < 4294967296) (hfit : nsec new s ≤ cap N) :
    SafeRun N s (fun v' => Loads N s v' a u rs ∨ Loads N s v' (1 - a) (nsec new s) new) (fun v' => Siz N s v' ∧ Set N s v' (1 - a) (nsec new s) new) v (resetSteps N s (1 - a) new) := by
  have hs0 : 0 < s := by omega
  have ha := h.low
  have hst := st_fits (N := N) (a := 1 - a) (by omega) (by omega)
  have hcap := cap_room hN
  obtain ⟨d1, d2⟩ := frame_div (new := new) 1 hs0
  have hlh : (hd (1 - a) s).length = s := hd_length hs
  obtain ⟨k1, k2, _⟩ := one_sector hs0 hlh
  have hst0 : 1 ≤ st N (1 - a) := by unfold st; omega
  have happart : ∀ j, st N a ≤ j → j < st N a + cap N → j < st N (1 - a) ∨ st N (1 - a) + (nsec new s + 1) ≤ j := by
    intro j h1 h2
    unfold st at *
    obtain rfl | rfl : a = 0 ∨ a = 1 := by omega
    · left; simp at *; omega
    · right; simp at *; omega
  have hv1 : Siz N s (upd s v (st N (1 - a), frame 1 new s)) := upd_siz hs0 hv
  have hv2 : Siz N s (upd s (upd s v (st N (1 - a), frame 1 new s)) (0, hd (1 - a) s)) := upd_siz hs0 hv1
  have e2 := fun j => upd_one hs0 (v := upd s v (st N (1 - a), frame 1 new s)) (i := 0) hlh j
  have e1 : ∀ j, upd s v (st N (1 - a), frame 1 new s) j = if st N (1 - a) ≤ j ∧ j < st N (1 - a) + (nsec new s + 1) then chunk (frame 1 new s) s (j - st N (1 - a)) else v j := fun j => by unfold upd; simp only [d1]
  have hpart : ∀ v', Part s v (st N (1 - a), frame 1 new s) v' → Loads N s v' a u rs := by
    intro v' hp
    unfold Part at hp
    simp only [d1] at hp
    refine h.loads.congr ?_ (fun j h1 h2 => ?_)
    · rcases hp 0 with h1 | ⟨h1, _⟩
      · exact h1
      · omega
    · rcases hp j with h3 | ⟨h3, h4, _⟩
      · exact h3
      · have := happart j h1 h2; omega
  have hset : ∀ v', Siz N s v' → (∀ j, v' j = if j = 0 then hd (1 - a) s else upd s v (st N (1 - a), frame 1 new s) j) → Set N s v' (1 - a) (nsec new s) new := by
    intro v' hs' e
    have hch : ∀ j, j ≤ nsec new s → v' (st N (1 - a) + j) = chunk (frame 1 new s) s j := fun j hj => by
      rw [e, if_neg (by omega), e1, if_pos (by omega), show st N (1 - a) + j - st N (1 - a) = j by omega]
    have hz : v' (st N (1 - a) + nsec new s) = List.replicate s 0 := by rw [hch _ (Nat.le_refl _)]; exact frame_chunk_last 1 hs0
    refine ⟨by omega, by rw [e, if_pos rfl], ?_, hz⟩
    by_cases h0 : new = []
    · subst h0
      rw [nsec_nil]
      refine .stop (stops (.inr ?_))
      rw [nsec_nil, Nat.add_zero] at hz
      obtain ⟨n, rfl⟩ : ∃ n, s = n + 1 := ⟨s - 1, by omega⟩
      rw [hz]; simp [List.replicate_succ]
    · obtain ⟨X, hX⟩ : ∃ X : Nat → List UInt8, X = fun j => if j = st N (1 - a) then List.replicate s 0 else v' j := ⟨_, rfl⟩
      have hXs : Siz N s X := fun i hi => by
        rw [hX]; simp only []
        split
        · simp
        · exact hs' i hi
      have hXr : Reads s (cat X (st N (1 - a)) (cap N)) [] 0 := .stop (stops (.inr (by
        obtain ⟨n, rfl⟩ : ∃ n, s = n + 1 := ⟨s - 1, by omega⟩
        rw [hX]; simp [List.replicate_succ])))
      have := area_more (v := X) (v' := v') hN hs0 (by omega) hXs hs' hXr (fun j h1 h2 => by omega) h0 hb hl (by omega) (fun j hj => by rw [Nat.add_zero]; exact hch j (by omega)) (by rw [Nat.add_zero]; exact hz)
      simpa using this
  refine ⟨d2, by simp only [d1]; omega, fun v' _ hp => .inl (hpart v' hp), k2, by simp only [k1]; omega, fun v' hs' hp => ?_, hv2, hset _ hv2 e2⟩
  rcases hp.one hs0 hlh with hp | hp
  · refine .inl (hpart v' fun j => ?_)
    rw [hp, e1]
    by_cases hj : st N (1 - a) ≤ j ∧ j < st N (1 - a) + (nsec new s + 1)
    · rw [if_pos hj]; exact .inr ⟨hj.1, by simp only [d1]; exact hj.2, rfl⟩
    · rw [if_neg hj]; exact .inl rfl
  · exact .inr (hset v' hs' hp).loads
end

/-! ### A disk that is written -/
def wr (d : Dk) (a : Nat) (b : List UInt8) : Nat → Nat × Dk
  | 0 => (0, d)
  | i + 1 => if (wr d a b i).1 ≠ 0 then wr d a b i else ((wr d a b i).2.writeErr ((a + i : Nat) : Int) (chunk b d.size i), (wr d a b i).2.write ((a + i : Nat) : Int) (chunk b d.size i))
def perform (d : Dk) (a : Nat) (b : List UInt8) : Nat × Dk :=
  if (wr d a b (b.length / d.size)).1 ≠ 0 then wr d a b (b.length / d.size) else ((wr d a b (b.length / d.size)).2.flushErr, (wr d a b (b.length / d.size)).2.flush)
def runSteps : Dk → List (Nat × List UInt8) → Nat × Dk
  | d, [] => (0, d)
  | d, t :: r => if (perform d t.1 t.2).1 ≠ 0 then perform d t.1 t.2 else runSteps (perform d t.1 t.2).2 r
theorem wr_stuck {d : Dk} {a : Nat} {b : List UInt8} {i : Nat} (h : (wr d a b i).1 ≠ 0) : ∀ k, i ≤ k → wr d a b k = wr d a b i
  | 0, hk => by rw [show i = 0 by omega]
  | k + 1, hk => by
    by_cases e : i = k + 1
    · rw [e]
    · have ih := wr_stuck h k (by omega)
      rw [wr, ih, if_pos h]
theorem perform_stuck {d : Dk} {a : Nat} {b : List UInt8} {i : Nat} (h : (wr d a b i).1 ≠ 0) (hi : i ≤ b.length / d.size) : perform d a b = wr d a b i := by
  have := wr_stuck h _ hi
  unfold perform
  rw [this, if_pos h]
theorem perform_full {d : Dk} {a : Nat} {b : List UInt8} (h : (wr d a b (b.length / d.size)).1 = 0) : perform d a b = ((wr d a b (b.length / d.size)).2.flushErr, (wr d a b (b.length / d.size)).2.flush) := by
  unfold perform; rw [if_neg (by rw [h]; simp)]
theorem wr_next {d : Dk} {a : Nat} {b : List UInt8} {i : Nat} (h : (wr d a b i).1 = 0) : wr d a b (i + 1) = ((wr d a b i).2.writeErr ((a + i : Nat) : Int) (chunk b d.size i), (wr d a b i).2.write ((a + i : Nat) : Int) (chunk b d.size i)) := by
  rw [wr, if_neg (by rw [h]; simp)]
/-- What has been written of a step, none of it durable. -/
structure Wrote (d : Dk) (a : Nat) (b : List UInt8) (j : Nat) (d' : Dk) : Prop where
  ok : d'.Ok
  size : d'.size = d.size
  dur : d'.dur = d.dur
  fr : ∀ i, d'.fr i = if a ≤ i ∧ i < a + j then some (chunk b d.size (i - a)) else none
  cut : d'.cut = d.cut
theorem power_live {d : Dk} (h : d.power = true) : d.dead = false ∧ d.drawn.dead = false ∧ d.drawn.cut = d.cut := by
  unfold Dk.power at h
  rw [Bool.and_eq_true] at h
  have hd : d.dead = false := by simpa using h.1
  have h2 := h.2
  refine ⟨hd, ?_, ?_⟩ <;> (unfold Dk.drawn; rw [if_neg (by rw [hd]; simp)])
  · cases hc : d.cut with
    | false => rw [if_neg (by simp)]; exact hd
    | true =>
      rw [if_pos rfl]
      rw [hc] at h2
      rw [if_neg (by simpa using h2)]
      exact hd
  · split
    · split <;> rfl
    · rfl
theorem power_gone {d : Dk} (h : d.power = false) : d.drawn.dead = true ∧ d.drawn.cut = d.cut ∧ (d.dead = true ∨ d.cut = true) := by
  unfold Dk.power at h
  cases hd : d.dead with
  | true => 
    have e : d.drawn = d := by unfold Dk.drawn; rw [if_pos hd]
    rw [e]; exact ⟨hd, rfl, .inl rfl⟩
  | false =>
    rw [hd] at h
    have h' : d.cut = true ∧ d.left = 0 := by simpa using h
    have e : d.drawn = { d with dead := true } := by unfold Dk.drawn; rw [if_neg (by rw [hd]; simp), if_pos h'.1, if_pos h'.2]
    rw [e]; exact ⟨rfl, rfl, .inr h'.1⟩
theorem wr_live {d : Dk} (hd0 : d.dead = false) (hc : d.cut = false) (a : Nat) (b : List UInt8) : ∀ j, (wr d a b j).2.dead = false ∧ (wr d a b j).2.cut = false := by
  intro j
  induction j with
  | zero => exact ⟨hd0, hc⟩
  | succ j ih =>
    rw [wr]
    split
    · exact ih
    · obtain ⟨i1, i2⟩ := ih
      unfold Dk.write
      have hd1 : (wr d a b j).2.drawn = (wr d a b j).2 := by unfold Dk.drawn; rw [if_neg (by rw [i1]; simp), if_neg (by rw [i2]; simp)]
      repeat' split
      all_goals first | exact ⟨i1, i2⟩ | (rw [hd1]; exact ⟨i1, i2⟩)
theorem wr_cases {d : Dk} (hok : d.Ok) (hfr : ∀ i, d.fr i = none) {a : Nat} {b : List UInt8} : ∀ (j : Nat), a + j ≤ d.dur.length → j * d.size ≤ b.length →
    ((wr d a b j).1 = 0 ∧ Wrote d a b j (wr d a b j).2) ∨ ((wr d a b j).1 = 32 ∧ (wr d a b j).2.dead = true ∧ (d.dead = true ∨ d.cut = true) ∧ ∃ j', j' ≤ j ∧ Wrote d a b j' (wr d a b j).2)
  | 0, _, _ => .inl ⟨rfl, hok, rfl, rfl, fun i => by rw [if_neg (by omega)]; exact hfr i, rfl⟩
  | j + 1, h1, h2 => by
    have h2' : j * d.size ≤ b.length := by rw [Nat.add_mul] at h2; omega
    rcases wr_cases hok hfr (a := a) (b := b) j (by omega) h2' with ⟨e, W⟩ | ⟨e, k1, k2, j', k3, W⟩
    · have hlen : (chunk b d.size j).length = d.size := chunk_length h2
      obtain ⟨D, hD⟩ : ∃ D, D = (wr d a b j).2 := ⟨_, rfl⟩
      have es : wr d a b (j + 1) = (D.writeErr ((a + j : Nat) : Int) (chunk b d.size j), D.write ((a + j : Nat) : Int) (chunk b d.size j)) := by rw [wr, if_neg (by rw [e]; simp), hD]
      rw [← hD] at W
      have hin : ¬ ¬ (0 ≤ ((a + j : Nat) : Int) ∧ ((a + j : Nat) : Int) < (D.dur.length : Int)) := by rw [W.dur]; omega
      have hsz : ¬ (chunk b d.size j).length ≠ D.size := by rw [W.size, hlen]; simp
      rw [es]
      cases hp : D.power with
      | true =>
        obtain ⟨p1, p2, p3⟩ := power_live hp
        left
        have ew : D.write ((a + j : Nat) : Int) (chunk b d.size j) = D.drawn.put (a + j) (chunk b d.size j) := by unfold Dk.write; rw [if_neg (by rw [p1]; simp), if_neg hin, if_neg hsz, if_pos hp, Int.toNat_natCast]
        have ee : D.writeErr ((a + j : Nat) : Int) (chunk b d.size j) = 0 := by unfold Dk.writeErr; rw [if_neg (by rw [p1]; simp), if_neg hin, if_neg hsz, if_pos hp]
        obtain ⟨s1, s2, s3⟩ := Dk.drawn_same D
        have hok2 : (D.drawn.put (a + j) (chunk b d.size j)).Ok := Dk.ok_put (Dk.ok_drawn W.ok) (by rw [s2, W.dur]; omega) (by rw [s1, W.size]; exact hlen)
        refine ⟨ee, ?_⟩
        simp only []
        rw [ew]
        refine ⟨hok2, s1.trans W.size, s2.trans W.dur, fun i => ?_, p3.trans W.cut⟩
        show (if i = a + j then some (chunk b d.size j) else D.drawn.fr i) = _
        by_cases hi : i = a + j
        · subst hi; rw [if_pos rfl, if_pos (by omega), show a + j - a = j by omega]
        · rw [if_neg hi, s3, W.fr]
          by_cases hi2 : a ≤ i ∧ i < a + j
          · rw [if_pos hi2, if_pos (by omega)]
          · rw [if_neg hi2, if_neg (by omega)]
      | false =>
        obtain ⟨p1, p2, p3⟩ := power_gone hp
        right
        rw [W.cut] at p3
        cases hd : D.dead with
        | true =>
          have ew : D.write ((a + j : Nat) : Int) (chunk b d.size j) = D := by unfold Dk.write; rw [if_pos hd]
          have ee : D.writeErr ((a + j : Nat) : Int) (chunk b d.size j) = 32 := by unfold Dk.writeErr; rw [if_pos hd]
          refine ⟨ee, by simp only []; rw [ew]; exact hd, ?_, j, by omega, by simp only []; rw [ew]; exact W⟩
          -- a dead disk from the start on
          rcases p3 with _ | p3
          · by_cases hc : d.cut = true
            · exact .inr hc
            · left
              cases hd0 : d.dead with
              | true => rfl
              | false =>
                exfalso
                have := (wr_live hd0 (by simpa using hc) a b j).1
                rw [← hD, hd] at this
                cases this
          · exact .inr p3
        | false =>
          have ew : D.write ((a + j : Nat) : Int) (chunk b d.size j) = D.drawn := by unfold Dk.write; rw [if_neg (by rw [hd]; simp), if_neg hin, if_neg hsz, if_neg (by rw [hp]; simp)]
          have ee : D.writeErr ((a + j : Nat) : Int) (chunk b d.size j) = 32 := by unfold Dk.writeErr; rw [if_neg (by rw [hd]; simp), if_neg hin, if_neg hsz, if_neg (by rw [hp]; simp)]
          obtain ⟨s1, s2, s3⟩ := Dk.drawn_same D
          rw [hd] at p3
          refine ⟨ee, by simp only []; rw [ew]; exact p1, p3.imp (fun h => by cases h) id, j, by omega, ?_⟩
          simp only []
          rw [ew]
          exact ⟨Dk.ok_drawn W.ok, s1.trans W.size, s2.trans W.dur, fun i => by rw [s3, W.fr], p2.trans W.cut⟩
    · right
      have es : wr d a b (j + 1) = wr d a b j := by rw [wr, if_pos (by rw [e]; simp)]
      rw [es]
      exact ⟨e, k1, k2, j', by omega, W⟩
/-- What a crash may leave: of each sector what was durable, or what was written since. -/
def Mix (d : Dk) (v : Nat → List UInt8) : Prop := ∀ i, v i = d.dur.getD i [] ∨ d.fr i = some (v i)
theorem last_none {d : Dk} {i : Nat} (h : d.fr i = none) : d.last i = d.dur.getD i [] := by unfold Dk.last; rw [h]
theorem last_out {d : Dk} (h : d.Ok) {i : Nat} (hi : d.dur.length ≤ i) : d.last i = [] := by
  have hf : d.fr i = none := by
    cases hf : d.fr i with
    | none => rfl
    | some b => have := (h.fr i b hf).1; omega
  rw [last_none hf, List.getD_eq_getElem?_getD, List.getElem?_eq_none hi]; rfl
theorem last_settle {d : Dk} (h : d.Ok) (i : Nat) : d.settle.last i = d.last i := by
  rw [last_none rfl]
  by_cases hi : i < d.dur.length
  · rw [List.getD_eq_getElem?_getD]; simp [Dk.settle, hi]
  · rw [last_out h (by omega), List.getD_eq_getElem?_getD, List.getElem?_eq_none (by simp [Dk.settle]; omega)]; rfl
theorem mix_crash {d : Dk} (h : d.Ok) (keep : Nat) : Mix d (d.crash keep).last := fun i => by
  have e : (d.crash keep).last i = (d.lose keep).last i := last_settle (Dk.ok_lose h keep) i
  rw [e]
  unfold Dk.last Dk.lose
  simp only []
  split
  · rename_i b hb
    split at hb
    · cases hb
    · exact .inr hb
  · exact .inl rfl
theorem siz_last {d : Dk} (h : d.Ok) : Siz d.dur.length d.size d.last := fun _ hi => Dk.last_len h hi
theorem siz_mix {d : Dk} (h : d.Ok) {v : Nat → List UInt8} (hm : Mix d v) : Siz d.dur.length d.size v := fun i hi => by
  rcases hm i with e | e
  · rw [e, List.getD_eq_getElem?_getD, List.getElem?_eq_getElem hi, Option.getD_some]; exact h.len _ (List.getElem_mem hi)
  · exact (h.fr i _ e).2
/-- A disk on which all is durable; it is as large as the other. -/
structure Flat (d d' : Dk) : Prop where
  ok : d'.Ok
  size : d'.size = d.size
  len : d'.dur.length = d.dur.length
  fr : ∀ i, d'.fr i = none
  cut : d'.cut = d.cut
theorem Flat.trans {a b c : Dk} (h : Flat a b) (k : Flat b c) : Flat a c := ⟨k.ok, k.size.trans h.size, k.len.trans h.len, k.fr, k.cut.trans h.cut⟩
/-- A disk whose power went under a call: what a crash may leave keeps P. -/
structure Gone (P : (Nat → List UInt8) → Prop) (d d' : Dk) : Prop where
  ok : d'.Ok
  size : d'.size = d.size
  len : d'.dur.length = d.dur.length
  dead : d'.dead = true
  why : d.dead = true ∨ d.cut = true
  safe : ∀ v, Mix d' v → P v
theorem flush_flat {d : Dk} (h : d.Ok) (hp : d.power = true) : d.flushErr = 0 ∧ d.flush.Ok ∧ d.flush.size = d.size ∧ d.flush.dur.length = d.dur.length ∧ (∀ i, d.flush.fr i = none) ∧ d.flush.cut = d.cut ∧ d.flush.dead = false ∧ ∀ i, d.flush.last i = d.last i := by
  obtain ⟨s1, s2, s3⟩ := Dk.drawn_same d
  obtain ⟨_, p2, p3⟩ := power_live hp
  have e : d.flush = d.drawn.settle := by unfold Dk.flush; rw [if_pos hp]
  refine ⟨by unfold Dk.flushErr; rw [if_pos hp], Dk.ok_flush h, by rw [e]; exact s1, by rw [e]; simp [Dk.settle, s2], fun i => by rw [e]; rfl, by rw [e]; exact p3, by rw [e]; exact p2, fun i => ?_⟩
  rw [e, last_settle (Dk.ok_drawn h)]
  unfold Dk.last; rw [s2, s3]
theorem perform_cases {d : Dk} (hok : d.Ok) (hfr : ∀ i, d.fr i = none) {a : Nat} {b : List UInt8} (hfit : a + b.length / d.size ≤ d.dur.length) :
    ((perform d a b).1 = 0 ∧ Flat d (perform d a b).2 ∧ (perform d a b).2.dead = false ∧ ∀ i, (perform d a b).2.last i = upd d.size d.last (a, b) i) ∨
    ((perform d a b).1 = 32 ∧ Gone (fun v => Siz d.dur.length d.size v ∧ Part d.size d.last (a, b) v) d (perform d a b).2) := by
  have hmix : ∀ {j : Nat} {D D' : Dk}, j ≤ b.length / d.size → Wrote d a b j D → D'.dur = D.dur → D'.fr = D.fr → D'.size = D.size → D'.Ok → ∀ v, Mix D' v → Siz d.dur.length d.size v ∧ Part d.size d.last (a, b) v := by
    intro j D D' hj W e1 e2 e3 hok' v hv
    refine ⟨by have := siz_mix hok' hv; rwa [e1, W.dur, e3, W.size] at this, fun i => ?_⟩
    rcases hv i with h1 | h1
    · left; rw [h1, e1, W.dur, last_none (hfr i)]
    · rw [e2, W.fr] at h1
      split at h1
      · rename_i hi
        right
        exact ⟨hi.1, by simp only []; omega, (Option.some.inj h1).symm⟩
      · cases h1
  rcases wr_cases hok hfr (a := a) (b := b) (b.length / d.size) hfit (Nat.div_mul_le_self _ _) with ⟨e, W⟩ | ⟨e, k1, k2, j', k3, W⟩
  · have ep : perform d a b = ((wr d a b (b.length / d.size)).2.flushErr, (wr d a b (b.length / d.size)).2.flush) := by unfold perform; rw [if_neg (by rw [e]; simp)]
    rw [ep]
    obtain ⟨D, hD⟩ : ∃ D, D = (wr d a b (b.length / d.size)).2 := ⟨_, rfl⟩
    rw [← hD] at W ⊢
    cases hp : D.power with
    | true =>
      left
      obtain ⟨q1, q2, q3, q4, q5, q6, q7, q8⟩ := flush_flat W.ok hp
      refine ⟨q1, ⟨q2, q3.trans W.size, by rw [q4, W.dur], q5, q6.trans W.cut⟩, q7, fun i => ?_⟩
      rw [q8]
      unfold upd
      by_cases hi : a ≤ i ∧ i < a + b.length / d.size
      · rw [if_pos hi]
        unfold Dk.last
        rw [W.fr, if_pos hi]
      · rw [if_neg hi, last_none (by rw [W.fr, if_neg hi]), W.dur, last_none (hfr i)]
    | false =>
      right
      obtain ⟨p1, p2, p3⟩ := power_gone hp
      obtain ⟨s1, s2, s3⟩ := Dk.drawn_same D
      have ef : D.flush = D.drawn := by unfold Dk.flush; rw [if_neg (by rw [hp]; simp)]
      refine ⟨by unfold Dk.flushErr; rw [if_neg (by rw [hp]; simp)], ?_⟩
      simp only []
      rw [ef]
      refine ⟨Dk.ok_drawn W.ok, s1.trans W.size, by rw [s2, W.dur], p1, ?_, hmix (Nat.le_refl _) W s2 s3 s1 (Dk.ok_drawn W.ok)⟩
      rw [W.cut] at p3
      rcases p3 with p3 | p3
      · by_cases hc : d.cut = true
        · exact .inr hc
        · left
          cases hd0 : d.dead with
          | true => rfl
          | false =>
            exfalso
            have := (wr_live hd0 (by simpa using hc) a b (b.length / d.size)).1
            rw [← hD, p3] at this
            cases this
      · exact .inr p3
  · right
    have ep : perform d a b = wr d a b (b.length / d.size) := by unfold perform; rw [if_pos (by rw [e]; simp)]
    rw [ep]
    exact ⟨e, W.ok, W.size, by rw [W.dur], k1, k2, hmix k3 W rfl rfl rfl W.ok⟩
theorem run_safe {P Q : (Nat → List UInt8) → Prop} : ∀ {l : List (Nat × List UInt8)} {d : Dk}, d.Ok → (∀ i, d.fr i = none) → SafeRun d.dur.length d.size P Q d.last l →
    ((runSteps d l).1 = 0 ∧ Flat d (runSteps d l).2 ∧ (l = [] ∨ (runSteps d l).2.dead = false) ∧ Q (runSteps d l).2.last) ∨ ((runSteps d l).1 = 32 ∧ Gone P d (runSteps d l).2)
  | [], d, hok, hfr, h => .inl ⟨rfl, ⟨hok, rfl, rfl, hfr, rfl⟩, .inl rfl, h⟩
  | t :: r, d, hok, hfr, ⟨h1, h2, h3, h4⟩ => by
    rcases perform_cases hok hfr (a := t.1) (b := t.2) h2 with ⟨e, F, q1, q2⟩ | ⟨e, G⟩
    · have es : runSteps d (t :: r) = runSteps (perform d t.1 t.2).2 r := by rw [runSteps, if_neg (by rw [e]; simp)]
      have hv : (perform d t.1 t.2).2.last = upd d.size d.last t := funext q2
      rw [es]
      have h4' : SafeRun (perform d t.1 t.2).2.dur.length (perform d t.1 t.2).2.size P Q (perform d t.1 t.2).2.last r := by rw [F.len, F.size, hv]; exact h4
      rcases run_safe F.ok F.fr h4' with ⟨k1, k2, k3, k4⟩ | ⟨k1, k2⟩
      · refine .inl ⟨k1, F.trans k2, .inr ?_, k4⟩
        rcases k3 with rfl | k3
        · exact q1
        · exact k3
      · refine .inr ⟨k1, k2.ok, k2.size.trans F.size, k2.len.trans F.len, k2.dead, ?_, k2.safe⟩
        rcases k2.why with hw | hw
        · rw [q1] at hw; cases hw
        · rw [F.cut] at hw; exact .inr hw
    · have es : runSteps d (t :: r) = perform d t.1 t.2 := by rw [runSteps, if_pos (by rw [e]; simp)]
      rw [es]
      exact .inr ⟨e, G.ok, G.size, G.len, G.dead, G.why, fun v hv => h3 v (G.safe v hv).1 (G.safe v hv).2⟩
end L
end Go.Proofs.YtgjgnieobbhepaaDoor
