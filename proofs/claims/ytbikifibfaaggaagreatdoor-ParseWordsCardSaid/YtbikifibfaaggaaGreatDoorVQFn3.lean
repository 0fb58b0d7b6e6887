import Derived.Test.YtbikifibfaaggaaGreatDoorVQFn2
namespace Go.Proofs.YtbikifibfaaggaaGreatDoor
set_option maxHeartbeats 4000000
set_option maxRecDepth 100000
open Go.RowKit Go.Shelf
open Lx (Tok Tx)
open Px (Ex Cn Sm Vr)
open Reg (Is Fact)
attribute [local go_sem] Reg.wantedV Reg.gives_value Reg.gives_skip Reg.gives_enter
theorem rfunc_err (w : World) (l : Tx) (hl : l.length ≤ 5000) (ts : List Tok) (pos z : Nat) (ho : Lx.toks l = ⟨ts, pos, z⟩) (hz : z ≠ 0) :
 Calls Tryz.prog 14 #[.string (strO l)] w (AttP FnAt (.agg #[.string .empty, .slice none 0 0, .slice none 0 0, .slice none 0 0]) w ⟨none, pos, z⟩) := by
 obtain ⟨X0, hX0⟩ : ∃ x, x = w.heap.size := ⟨_, rfl⟩
 have HLX := Hd (rtokens_any (w.alloc (.cells #[.string ⟨#[]⟩, .slice none 0 0, .slice none 0 0, .slice none 0 0] 26)) l hl)
 rw [ho] at HLX
 have HZ0 := Hd (heap_alloc_new w (.cells #[.string ⟨#[]⟩, .slice none 0 0, .slice none 0 0, .slice none 0 0] 26))
 obtain ⟨s, hs⟩ : ∃ s, s = strO l := ⟨_, rfl⟩
 rw [← hs] at HLX ⊢
 have hz1 : ((z : Int) != 0) = true := by simp; omega
 have hz2 : ((z : Int) == 0) = false := by simp; omega
 have hz' : decide ((z : Int) = 0) = false := by simp; omega
 clear ho hs hl
 have HX := Hd hX0
 clear hX0
 go_enter Tryz.func14, Tryz.ntmps14
 go_wp2_with fail
 refine (HLX.out).mono ?_
 rintro e w1 ⟨A, c, g, rfl, htk, hg, hk⟩
 have HB0 := Hd (block_keep HZ0.out hk (by simp))
 have HK := Hd (((Keeps.refl [] w).alloc (.cells #[.string ⟨#[]⟩, .slice none 0 0, .slice none 0 0, .slice none 0 0] 26)).trans hk (fun _ h _ => h))
 clear htk hg hk
 have hx0 : w.heap.size = X0 := HX.out.symm
 rw [hx0] at HB0
 simp only [hx0]
 obtain ⟨c00, f00, c01, f01, c02, f02, c03, f03⟩ := row4 HB0.out
 clear hx0
 go_wp2
 refine bodyPost_ret (v := .tuple #[.agg #[.string ⟨#[]⟩, .slice none 0 0, .slice none 0 0, .slice none 0 0], .int .i64 (pos : Int), .int .i64 (z : Int)]) (by simp [results, Tryz.results14, go_sem, c00, c01, c02, c03]) rfl ?_
 refine setsEnd (S := [X0]) (w := w1) ?_ ?_
 · exact zW
 ·
  intro W9 hk
  exact ⟨_, rfl, HK.out.hi hk zY, rfl⟩
theorem rfunc_any (w : World) (l : Tx) (hl : l.length ≤ 5000) :
 Calls Tryz.prog 14 #[.string (strO l)] w (AttP FnAt (.agg #[.string .empty, .slice none 0 0, .slice none 0 0, .slice none 0 0]) w (Px.funcT l)) := by
 obtain ⟨ts, pos, z, ho⟩ : ∃ ts pos z, Lx.toks l = ⟨ts, pos, z⟩ := ⟨_, _, _, rfl⟩
 unfold Px.funcT
 rw [ho]
 by_cases hz : z = 0
 ·
  subst hz
  rw [if_pos rfl, func_eq (n := l.length) (f := Px.fuelOf ts) (ts := ts) rfl rfl rfl rfl]
  cases hs : ((((St.live ts 0 0).want l.length [102, 110]).name l.length).want l.length [40]).sees [41] with
  | true => exact rfunc_none w l hl ts pos ho rfl rfl rfl rfl rfl rfl hs
  | false => exact rfunc_some w l hl ts pos ho rfl rfl rfl rfl rfl rfl hs
 ·
  rw [if_neg hz]
  exact rfunc_err w l hl ts pos z ho hz
end Go.Proofs.YtbikifibfaaggaaGreatDoor
