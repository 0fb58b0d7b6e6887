/- LexReads: any text has just the document's tokens. -/
import Derived.Test.YtieghhhiclpeiaaDoorLRef
import Derived.Test.YtieghhhiclpeiaaDoorLSame
namespace Go.Proofs.YtieghhhiclpeiaaDoor
open Go.RowKit Go.Shelf

theorem scan_toks (s : Lx.Tx) (f : Nat) (acc : List Lx.Tok) : (Lx.scan s f acc).toks.length ≤ acc.length + (s.length - f) := by
  fun_induction Lx.scan s f acc with
  | case1 f acc h hj ih =>
    have hp := Lx.pieceLen_pos (Lx.drop_ne h)
    have : (Lx.addTok acc (Lx.judge (Lx.pc s f)).1 (Lx.pc s f) f).length ≤ acc.length + 1 := by
      unfold Lx.addTok; split <;> simp
    omega
  | case2 f acc h hj => simp
  | case3 f acc h => simp
theorem toks_len (s : Lx.Tx) : (Lx.toks s).toks.length ≤ 4096 := by
  unfold Lx.toks
  split
  · simp
  · have := scan_toks s 0 []
    simp at this; omega
set_option maxHeartbeats 2000000 in
set_option maxRecDepth 100000 in
theorem lreads_any (w : World) (he : ErrAt w) (s : ByteArray) (hs : s.size ≤ maxLen) :
    Calls Tryd.prog 3 #[.string s] w (Yes w) := by
  unfold maxLen at hs
  have HK0 := Lib.hid (known_any w he)
  have HE := Lib.hid he
  clear he
  by_cases hl : s.size ≤ 4500
  · have HA := Lib.hid (fun w' (h : ErrAt w') => tokens_any w' s.data.toList (by have := Lib.size_eq s; omega) h)
    have HB := Lib.hid (fun w' => rtokens_any w' s.data.toList (by have := Lib.size_eq s; omega))
    rw [strO_back] at HA HB
    have hlen := toks_len s.data.toList
    obtain ⟨⟨ts, po, er⟩, ho⟩ : ∃ o, o = Lx.toks s.data.toList := ⟨_, rfl⟩
    rw [← ho] at HA HB hlen
    simp only at hlen
    clear ho
    obtain ⟨pi, hpi⟩ : ∃ x : Int, x = ((po : Nat) : Int) := ⟨_, rfl⟩
    obtain ⟨ei, hei⟩ : ∃ x : Int, x = ((er : Nat) : Int) := ⟨_, rfl⟩
    go_enter Tryd.func3, Tryd.ntmps3
    go_wp2_with fail
    refine (HK0.out).mono ?_
    rintro e w1 ⟨rfl, hk1⟩
    have HK1 := Lib.hid hk1
    clear hk1
    go_wp2_with fail
    refine (HA.out w1 (HE.out.keep HK1.out)).mono ?_
    rintro e w2 ⟨A, c, g, rfl, hti, _, hk2⟩
    have HK2 := Lib.hid (HK1.out.trans hk2 (by simp))
    have HTI := Lib.hid hti
    simp only at HTI
    rw [← hpi, ← hei]
    clear hk2 hti
    go_wp2_with fail
    refine (HB.out w2).mono ?_
    rintro e w3 ⟨A', c', g', rfl, hti, _, hk3⟩
    have HS := Lib.hid (toks_same w3 g g' A A' c c' ts (HTI.out.keep hk3 (by simp)) hti (by omega))
    have HK3 := Lib.hid (HK2.out.trans hk3 (by simp))
    rw [← hpi, ← hei]
    clear hk3 hti hpi hei
    go_wp2_with fail
    refine (HS.out).mono ?_
    rintro e w4 ⟨rfl, hk4⟩
    have HK4 := Lib.hid (HK3.out.trans hk4 (by simp))
    clear hk4
    go_wp2_with fail
    go_ret
    exact ⟨rfl, HK4.out⟩
  · go_enter Tryd.func3, Tryd.ntmps3
    go_wp2_with fail
    refine (HK0.out).mono ?_
    rintro e w1 ⟨rfl, hk1⟩
    have HK1 := Lib.hid hk1
    clear hk1
    go_wp2_with fail
    go_ret
    exact ⟨rfl, HK1.out⟩
end Go.Proofs.YtieghhhiclpeiaaDoor
