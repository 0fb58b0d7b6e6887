/- Merged: STear -/
import Derived.Test.YtbanpdeganlndaaGreatDoorQ11
import Derived.Test.YtbanpdeganlndaaGreatDoorQ18
namespace Go.Proofs.YtbanpdeganlndaaGreatDoor
open Go.RowKit
open St (Tx As Ch)

theorem mix_woke {d : Dk} (ok : d.Ok) {fr' : Nat → Option (List UInt8)} (ht : Torn d fr') : L.Mix d (d.woke fr').last := fun i => by
  have e : (d.woke fr').last i = (d.with fr').last i := L.last_settle (ok_with ok ht) i
  rw [e]
  rcases ht i with h | h | ⟨k, b, h1, h2⟩
  · left
    rw [L.last_none (d := d.with fr') h]
    rfl
  · cases hf : d.fr i with
    | none =>
      left
      rw [L.last_none (d := d.with fr') (h.trans hf)]
      rfl
    | some b =>
      right; left
      have : (d.with fr').last i = b := by unfold Dk.last Dk.with; simp only [h, hf]
      rw [this]
  · right; right
    refine ⟨k, b, h1, ?_⟩
    unfold Dk.last Dk.with
    simp only [h2]
theorem woke_facts {d : Dk} (fr' : Nat → Option (List UInt8)) : (d.woke fr').dur.length = d.dur.length ∧ (d.woke fr').size = d.size ∧ Lit_ (d.woke fr') := ⟨by simp [Dk.woke, Dk.settle, Dk.with], rfl, rfl, rfl⟩
section
variable {w0 w : World} {h : DH} {B : Nat → Prop} {d : Dk} {rs next : List (List UInt8)} {N s : Nat}
theorem GD.crasht (x : GD w0 w h B d rs next N s) (keep : Nat) (hkeep : keep < 18446744073709551616) (torn pos : Int) :
    Calls Tryz.prog 20 #[.pointer (some ⟨h.p, 0, none⟩), .int .u64 (keep : Int), .int .i64 torn, .int .i64 pos] w fun e w' => e = .returned (.tuple #[]) ∧ Keeps h.l w w' ∧ ∃ rec B' d', (rec = rs ∨ rec = next) ∧ GF w0 w' h B' d' rec N s := by
  refine (crasht_any w h B d x.disk keep hkeep torn pos).mono ?_
  rintro e w' ⟨rfl, fr', B', ht, hx, _, _, hk⟩
  obtain ⟨h2, h3, h5⟩ := woke_facts (d := d) fr'
  have hk0 : Keeps [] w0 w' := ((x.keeps.mono (T := h.l) (by simp)).trans hk (fun _ hi _ => hi)).mono (fun i hi hlt => by have := x.new i hi; omega)
  refine ⟨rfl, hk, ?_⟩
  rcases x.mid.2.2.2 _ (mix_woke x.disk.ok ht) with q | q
  · exact ⟨rs, B', _, .inl rfl, hx, h5, h2.trans x.mid.2.1, h3.trans x.mid.2.2.1, q, hk0, x.new, x.tab0, x.pos⟩
  · exact ⟨next, B', _, .inr rfl, hx, h5, h2.trans x.mid.2.1, h3.trans x.mid.2.2.1, q, hk0, x.new, x.tab0, x.pos⟩
end
theorem tear_open {w0 w : World} {h : DH} {B : Nat → Prop} {d : Dk} {cs next : List Ch} {N s : Nat} (x : GD w0 w h B d (cs.map St.rec) (next.map St.rec) N s) (keep : Nat) (hkeep : keep < 18446744073709551616) (torn pos : Int) (hN : 16 ≤ N) (hsz : 128 ≤ s)
    (hs : ∀ c ∈ cs, c.size ≤ 1048512) (hl : cs.length ≤ 100000) (hs' : ∀ c ∈ next, c.size ≤ 1048512) (hl' : next.length ≤ 100000) :
    Calls Tryz.prog 20 #[.pointer (some ⟨h.p, 0, none⟩), .int .u64 (keep : Int), .int .i64 torn, .int .i64 pos] w fun e w1 => e = .returned (.tuple #[]) ∧ Keeps h.l w w1 ∧
      Calls Tryz.prog 12 #[.pointer (some ⟨h.p, 0, none⟩)] w1 fun e w2 => ∃ sp mb lp, e = .returned (.tuple #[.pointer (some ⟨sp, 0, none⟩), .int .i64 0]) ∧ Back w0 w2 h cs next N s sp mb lp ∧ Keeps h.l w1 w2 := by
  refine (x.crasht keep hkeep torn pos).mono ?_
  rintro e w1 ⟨rfl, hk, rec, _, _, hrec, hf⟩
  refine ⟨rfl, hk, ?_⟩
  rcases hrec with rfl | rfl
  · refine (hf.sopens hN hsz hs hl).mono ?_
    rintro e w2 ⟨sp, mb, lp, B', d', g', rfl, hlit, _, hsr, hk2, _, _⟩
    exact ⟨sp, mb, lp, rfl, ⟨cs, B', d', g', .inl rfl, hlit, hsr⟩, hk2⟩
  · refine (hf.sopens hN hsz hs' hl').mono ?_
    rintro e w2 ⟨sp, mb, lp, B', d', g', rfl, hlit, _, hsr, hk2, _, _⟩
    exact ⟨sp, mb, lp, rfl, ⟨next, B', d', g', .inr rfl, hlit, hsr⟩, hk2⟩
end Go.Proofs.YtbanpdeganlndaaGreatDoor
