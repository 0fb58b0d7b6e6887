/- Slices of bytes that are handed on by value and appended to; the reference's Num, Int, Text, Bool. -/
import Derived.Test.YtohmadfaaonaaaaCInt
import Derived.Test.YtohmadfaaonaaaaRegion
namespace Go.Proofs.Ytohmadfaaonaaaa
open Go.RowKit

/-- A slice of the call's own in block g: it reads as l. -/
def OwnAt (w : World) (g : Nat) (v : Value) (l : List UInt8) : Prop := (∃ cap, v = .slice (some ⟨g, 0, none⟩) l.length cap) ∧ w.ownsRow 0 5 1 v l.length (u8s l)
/-- A slice that may be appended to: its own (S: its block), or one without room (S: nothing). -/
def BufAt (w : World) (S : List Nat) (v : Value) (l : List UInt8) : Prop :=
  (∃ g, S = [g] ∧ OwnAt w g v l) ∨ (S = [] ∧ ∃ A g, v = .slice A l.length l.length ∧ BytesIn w g A l ∧ (A = none → l = []))
theorem BufAt.nil (w : World) : BufAt w [] (.slice none 0 0) [] := .inr ⟨rfl, none, 0, rfl, .inl rfl, fun _ => rfl⟩
theorem OwnAt.buf {w : World} {g : Nat} {v : Value} {l : List UInt8} (h : OwnAt w g v l) : BufAt w [g] v l := .inl ⟨g, rfl, h⟩
theorem OwnAt.lt {w : World} {g : Nat} {v : Value} {l : List UInt8} (h : OwnAt w g v l) : g < w.heap.size := by
  obtain ⟨⟨cap, rfl⟩, h⟩ := h
  exact (h.lt g rfl).2
theorem OwnAt.keep {S : List Nat} {w w' : World} {g : Nat} {v : Value} {l : List UInt8} (h : OwnAt w g v l) (hk : Keeps S w w') (hn : g ∉ S) : OwnAt w' g v l := by
  obtain ⟨⟨cap, rfl⟩, h⟩ := h
  exact ⟨⟨cap, rfl⟩, owned_keep h hk (fun x hx => by obtain rfl : g = x := by simpa [Value.ownBlock] using hx
                                                     exact hn)⟩
theorem OwnAt.bytes {w : World} {g : Nat} {v : Value} {l : List UInt8} (h : OwnAt w g v l) : ∃ cap, v = .slice (some ⟨g, 0, none⟩) l.length cap ∧ BytesIn w g (some ⟨g, 0, none⟩) l ∧ l.length ≤ cap ∧ cap ≤ maxLen := by
  obtain ⟨⟨cap, rfl⟩, h⟩ := h
  refine ⟨cap, rfl, BytesIn.of_own h (.inr ⟨0, rfl⟩), ?_⟩
  rcases own_form h with ⟨h0, _⟩ | ⟨g', c', h1, _, h2, h3⟩
  · cases h0
  · have : cap = c' := by injection h1
    omega
theorem BufAt.keep {S T : List Nat} {w w' : World} {v : Value} {l : List UInt8} (h : BufAt w S v l) (hk : Keeps T w w') (hS : ∀ x ∈ S, x ∉ T) (hT : ∀ x ∈ T, ∀ A g, S = [] → v = .slice A l.length l.length → BytesIn w g A l → 0 < l.length → g ≠ x) : BufAt w' S v l := by
  rcases h with ⟨g, rfl, h⟩ | ⟨rfl, A, g, rfl, h1, h2⟩
  · exact .inl ⟨g, rfl, h.keep hk (hS g (by simp))⟩
  · refine .inr ⟨rfl, A, g, rfl, ?_, h2⟩
    by_cases hl : 0 < l.length
    · exact h1.keep hk (fun hm => hT g hm A g rfl rfl h1 hl rfl)
    · exact .inl (List.eq_nil_of_length_eq_zero (by omega))
theorem BufAt.keep0 {S : List Nat} {w w' : World} {v : Value} {l : List UInt8} (h : BufAt w S v l) (hk : Keeps [] w w') : BufAt w' S v l := h.keep hk (by simp) (by simp)
theorem BufAt.lt {S : List Nat} {w : World} {v : Value} {l : List UInt8} (h : BufAt w S v l) : ∀ x ∈ S, x < w.heap.size := by
  rcases h with ⟨g, rfl, h⟩ | ⟨rfl, _⟩
  · intro x hx
    obtain rfl : x = g := by simpa using hx
    exact h.lt
  · simp
theorem BufAt.form {S : List Nat} {w : World} {v : Value} {l : List UInt8} (h : BufAt w S v l) : ∃ A g cap, v = .slice A l.length cap ∧ BytesIn w g A l := by
  rcases h with ⟨g, rfl, h⟩ | ⟨rfl, A, g, rfl, h1, h2⟩
  · obtain ⟨cap, h1, h2, _⟩ := h.bytes
    exact ⟨_, g, cap, h1, h2⟩
  · exact ⟨A, g, _, rfl, h1⟩

theorem run_append_buf {P : Program} (w : World) (t ty : TypeId) (i : TypeInfo) (ht : P.underlying t = some (.slice 5)) (hi : P.info? 5 = some i) (hz : i.zero = some (.int .u8 0)) (hsize : i.size = 1) (hby : i.bytes = 1)
    (S : List Nat) (v : Value) (l : List UInt8) (hb : BufAt w S v l) (a : Addr) (m c : Nat) (new : List UInt8) (hm : m = new.length) (h0 : 0 < m) (hnew : ∀ j u, (u8s new)[j]? = some u → w.cell? (a.add j) = some u)
    (hbytes : l.length + m ≤ 70368744177664) :
    ∃ v' w' g', (Builtin.append_ #[t, t] ty #[v, .slice (some a) m c]).run P w = .ok v' w' ∧ OwnAt w' g' v' (l ++ new) ∧ (g' ∈ S ∨ w.heap.size ≤ g') ∧ Keeps S w w' := by
  subst hm
  have hlen : (l ++ new).length = l.length + new.length := List.length_append
  rcases hb with ⟨g, rfl, h⟩ | ⟨rfl, A, g, rfl, h1, h2⟩
  · obtain ⟨⟨cap, rfl⟩, h⟩ := h
    obtain ⟨v', w', hr, q1, q2, q3, q4⟩ := run_append_own_at (P := P) w 0 t ty 5 i (.int .u8 0) 1 1 ht hi hz hsize hby rfl (by omega) _ _ _ h a new.length c (u8s new) (by simp [u8s]) hnew (u8s_one _) (by unfold maxLen; omega) (by omega) (Nat.zero_le _)
    rw [← u8s_append, ← hlen] at q1
    obtain ⟨g', c', rfl⟩ := own_slice q1 (by omega)
    refine ⟨_, w', g', hr, ⟨⟨c', rfl⟩, q1⟩, ?_, (Keeps.of_grown q2).mono (by simp [Value.ownBlock])⟩
    rcases q4 with q4 | q4
    · exact .inl (by simpa [Value.ownBlock] using q4)
    · have : g' = w.heap.size := by simpa [Value.ownBlock] using q4
      exact .inr (by omega)
  · have fin : ∀ (old : Nat) (k : Nat), k ≤ maxLen → (l ++ new).length ≤ k → OwnAt (w.drew.alloc (.cells ((u8s l).toArray ++ (u8s new).toArray ++ Builtin.zeroCells (Value.int .u8 0).cells (k - (l ++ new).length)) 5)) w.heap.size (.slice (some ⟨w.heap.size, 0, none⟩) (l ++ new).length k) (l ++ new) := by
      intro old k hk1 hk2
      refine ⟨⟨k, rfl⟩, by simp [u8s], .inr ⟨w.heap.size, k, _, rfl, Nat.zero_le _, heap_alloc_new w.drew _, hk2, hk1, ?_, ?_⟩⟩
      · have hz1 : (Value.int IntKind.u8 0).cells.size = 1 := rfl
        simp only [Array.size_append, List.size_toArray, size_zeroCells, hz1, u8s_length]
        omega
      · simp only [Array.toList_append, Nat.mul_one]
        have : (l ++ new).length = (u8s l ++ u8s new).length := by simp [u8s]
        rw [this, List.take_left, u8s_append]
    rcases A with _ | ⟨b, off, spot⟩
    · obtain rfl := h2 rfl
      have hr := run_append_nil (P := P) w t ty 5 i (.int .u8 0) ht hi hz a new.length c (u8s new) (by rw [hsize]; simp [u8s]) hnew h0 (by omega) (by rw [hby]; omega)
      refine ⟨_, _, w.heap.size, hr, ?_, .inr (Nat.le_refl _), (Keeps.refl [] w).drew.alloc _⟩
      have := fin 0 (grownCap w new.length 0 5) (grownCap_le_maxLen w _ _ _ (by unfold maxLen; omega)) (by simpa using grownCap_ge w new.length 0 5)
      simpa [u8s] using this
    · have hcells : ∀ j u, (u8s l)[j]? = some u → w.cell? ((⟨b, off, spot⟩ : Addr).add j) = some u := by
        intro j u hj
        have hjl : j < l.length := by
          have := (List.getElem?_eq_some_iff.1 hj).1
          simpa [u8s] using this
        rcases h1 with h | ⟨off', h, hc⟩
        · subst h; simp at hjl
        · have hb : (⟨b, off, spot⟩ : Addr) = ⟨g, off', none⟩ := Option.some.inj h
          rw [u8s_get hjl] at hj
          obtain rfl := Option.some.inj hj
          rw [hb, Addr.add_lit]
          exact hc j hjl
      have hr := run_append_grow (P := P) w t ty 5 i (.int .u8 0) ht hi hz ⟨b, off, spot⟩ l.length l.length (u8s l) (by rw [hsize]; simp [u8s]) hcells a new.length c (u8s new) (by rw [hsize]; simp [u8s]) hnew (by omega) (by omega) (by rw [hby]; exact growslice_fits (by omega) (by omega))
      refine ⟨_, _, w.heap.size, hr, ?_, .inr (Nat.le_refl _), (Keeps.refl [] w).drew.alloc _⟩
      have := fin l.length (grownCap w (l.length + new.length) l.length 5) (grownCap_le_maxLen w _ _ _ (by unfold maxLen; omega)) (by rw [hlen]; exact grownCap_ge w (l.length + new.length) l.length 5)
      rw [hlen] at this
      exact this
theorem wpList_append_buf {P : Program} (w : World) {ops : Array Oper} {rest : List Oper} {o : Oper} {a : Act} {Q : Exit → Act → World → Prop} (hgd : o.guard = none) (s x : Operand) (t : TypeId)
    (ho : o.op = .call { callee := .builtin .append, args := #[s, x], argTypes := #[t, t] }) (i : TypeInfo) (ht : P.underlying t = some (.slice 5)) (hi : P.info? 5 = some i) (hz : i.zero = some (.int .u8 0)) (hsize : i.size = 1) (hby : i.bytes = 1)
    (S : List Nat) (v : Value) (l : List UInt8) (hs : a.eval s = v) (hb : BufAt w S v l) (ad : Addr) (m c : Nat) (new : List UInt8) (hx : a.eval x = .slice (some ad) m c) (hm : m = new.length) (h0 : 0 < m) (hnew : ∀ j u, (u8s new)[j]? = some u → w.cell? (ad.add j) = some u)
    (hbytes : l.length + m ≤ 70368744177664)
    (h : ∀ v' w' g', OwnAt w' g' v' (l ++ new) → (g' ∈ S ∨ w.heap.size ≤ g') → Keeps S w w' → wpList P ops Q rest (a.put o.dst v') w') : wpList P ops Q (o :: rest) a w := by
  refine wpList_plain hgd fun K hK => ?_
  obtain ⟨v', w', g', hr, h2, h3, h4⟩ := run_append_buf (P := P) w t o.type i ht hi hz hsize hby S v l hb ad m c new hm h0 hnew hbytes
  unfold Oper.wp execOp
  simp only [ho, resolve, invoke, builtin, Sem.run_bind, Sem.run_pure, Result.andThen_ok, List.map_toArray, List.map_cons, List.map_nil, hs, hx, hr]
  exact hK _ _ (h v' w' g' h2 h3 h4)

/-- What the reference's writers leave. -/
def Grew (w : World) (S : List Nat) (l : List UInt8) (e : Ending) (w' : World) : Prop := ∃ v g, e = .returned v ∧ OwnAt w' g v l ∧ (g ∈ S ∨ w.heap.size ≤ g) ∧ Keeps S w w'

set_option maxHeartbeats 1000000 in
set_option maxRecDepth 100000 in
theorem refNum_any (w : World) (S : List Nat) (v : Value) (l : List UInt8) (n : Nat) (hb : BufAt w S v l) (hn : n < 18446744073709551616) (hl : l.length + 10 ≤ 70368744177000) :
    Calls Try.prog 38 #[v, .int .u64 (n : Int)] w (Grew w S (l ++ M.enc n)) := by
  obtain ⟨i0, hi, hz0, hz1, hz2⟩ := info_parts infoU8
  have HB := Lib.hid hb
  have HEL := Lib.hid (M.enc_len64 hn)
  have HN := Lib.hid hn
  clear hb hn
  go_enter Try.func38, Try.ntmps38
  go_wp2
  go_loopw [0, 1] (fun b x wr => ∃ (S' : List Nat) (n' : Nat) (l' : List UInt8), x = .int .u64 (n' : Int) ∧ n' < 18446744073709551616 ∧ BufAt wr S' b l' ∧ l' ++ M.enc n' = l ++ M.enc n ∧ (∀ x ∈ S', x ∈ S ∨ w.heap.size ≤ x) ∧ Keeps S w wr) (fun _ x _ => (intOf x).toNat)
  case atStart => exact ⟨S, n, l, rfl, HN.out, HB.out, rfl, fun x hx => .inl hx, Keeps.refl _ _⟩
  case round =>
    obtain ⟨S', n', l', rfl, hn', hb', hl', hS', hk'⟩ := hrel
    have HB' := Lib.hid hb'
    have HL' := Lib.hid hl'
    have HS' := Lib.hid hS'
    have HK' := Lib.hid hk'
    have hlen : l'.length + 1 ≤ 70368744177664 := by
      have h1 := congrArg List.length hl'
      rw [List.length_append, List.length_append] at h1
      have := M.enc_pos n'
      have := HEL.out
      omega
    clear hb' hl' hS' hk'
    by_cases hsm : n' < 128
    · have HC := Lib.hid (show ∀ (w : World) j u, (u8s [UInt8.ofNat n'])[j]? = some u → (w.alloc (.cells #[.int .u8 (n' : Int)] 5)).cell? ((⟨w.heap.size, 0, none⟩ : Addr).add j) = some u by
        intro w
        have e : u8s [UInt8.ofNat n'] = [.int .u8 (n' : Int)] := by simp only [u8s, List.map_cons, List.map_nil]; rw [M.u8_toNat (by omega)]
        rw [e]
        exact cell_one_new w _ _)
      have HE := Lib.hid (show l' ++ [UInt8.ofNat n'] = l ++ M.enc n by rw [← HL'.out, M.enc_small hsm])
      go_wp2_with (at_builtin; refine wpList_append_buf _ rfl _ _ 27 rfl i0 Try.underlying27 hi hz0 hz1 hz2 S' _ l' rfl (HB'.out.keep0 ((Keeps.refl _ _).alloc _)) ⟨wr.heap.size, 0, none⟩ 1 1 [UInt8.ofNat n'] rfl rfl (by omega) (HC.out wr) hlen ?_)
      intro v1 w1 g1 q1 q2 q3
      rw [HE.out] at q1
      have HQ := Lib.hid (show Grew w S (l ++ M.enc n) (.returned v1) w1 from ⟨v1, g1, rfl, q1, by
          rcases q2 with q2 | q2
          · exact HS'.out _ q2
          · have := HK'.out.size; exact .inr (by omega), (HK'.out.trans ((Keeps.refl [] wr).alloc _) (by simp)).trans q3 (fun x hx hlx => by
          rcases HS'.out x hx with h | h
          · exact h
          · omega)⟩)
      clear q1 q2 q3
      go_wp2
      go_ret
      exact HQ.out
    · obtain ⟨c, hc⟩ : ∃ c, c = UInt8.ofNat (n' % 128 + 128) := ⟨_, rfl⟩
      have HC := Lib.hid (show ∀ (w : World) j u, (u8s [c])[j]? = some u → (w.alloc (.cells #[.int .u8 (bits .or .u8 ((n' : Int) % 256) 128)] 5)).cell? ((⟨w.heap.size, 0, none⟩ : Addr).add j) = some u by
        intro w
        have e : u8s [c] = [.int .u8 (bits .or .u8 ((n' : Int) % 256) 128)] := by rw [hc]; simp only [u8s, List.map_cons, List.map_nil]; rw [M.u8_toNat (by omega), M.or_128]
        rw [e]
        exact cell_one_new w _ _)
      have HE := Lib.hid (show (l' ++ [c]) ++ M.enc (n' / 128) = l ++ M.enc n by rw [← HL'.out, M.enc_big hsm, hc, List.append_assoc]; rfl)
      clear hc
      go_wp2_with (at_builtin; refine wpList_append_buf _ rfl _ _ 27 rfl i0 Try.underlying27 hi hz0 hz1 hz2 S' _ l' rfl (HB'.out.keep0 ((Keeps.refl _ _).alloc _)) ⟨wr.heap.size, 0, none⟩ 1 1 [c] rfl rfl (by omega) (HC.out wr) hlen ?_)
      intro v1 w1 g1 q1 q2 q3
      have HQ1 := Lib.hid q1
      have HQ2 := Lib.hid q2
      have HQ3 := Lib.hid q3
      clear q1 q2 q3
      go_wp2
      go_roundw
      case rel =>
        refine ⟨[g1], n' / 128, _, by go_num, by omega, HQ1.out.buf, HE.out, fun x hx => ?_, (HK'.out.trans ((Keeps.refl [] wr).alloc _) (by simp)).trans HQ3.out (fun x hx hlx => ?_)⟩
        · obtain rfl : x = g1 := by simpa using hx
          rcases HQ2.out with q2 | q2
          · exact HS'.out _ q2
          · have := HK'.out.size; exact .inr (by omega)
        · rcases HS'.out x hx with h | h
          · exact h
          · omega
      case measure => simp [intOf]; omega
end Go.Proofs.Ytohmadfaaonaaaa
