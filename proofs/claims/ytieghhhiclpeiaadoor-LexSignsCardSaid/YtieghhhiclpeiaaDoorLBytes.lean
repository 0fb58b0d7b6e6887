/- LexBytes: single bytes. -/
import Derived.Test.YtieghhhiclpeiaaDoorLReads
namespace Go.Proofs.YtieghhhiclpeiaaDoor
open Go.RowKit Go.Shelf

theorem conv_bytes (w : World) (g : Nat) (A : Option Addr) (l : List UInt8) (cap : Nat) (h : BytesIn w g A l) : (convert 31 9 (.slice A l.length cap)).run Tryd.prog w = .ok (.string (strO l)) w := by
  rcases h with h | ⟨off, rfl, hc⟩
  · subst h
    cases A with
    | none => rw [run_convert_bytes_string w _ _ 5 none _ cap Tryd.underlying31 Tryd.underlying5 Tryd.underlying9]; simp [Conv.bytesToString, strO]; rfl
    | some a => exact run_convert_bytes_back w _ _ 5 a cap [] Tryd.underlying31 Tryd.underlying5 Tryd.underlying9 (fun j hj => by simp at hj)
  · exact run_convert_bytes_back w _ _ 5 _ cap l Tryd.underlying31 Tryd.underlying5 Tryd.underlying9 (fun j hj => by rw [Addr.add_lit]; exact hc j hj)
theorem strO_add (a b : List UInt8) : strO a ++ strO b = strO (a ++ b) := by
  apply ByteArray.ext
  simp [strO]
theorem byte_of {n : Int} (wf : (Lit.int .u8 n).wf = true) : ∃ b : UInt8, n = ((b.toNat : Nat) : Int) := by
  have hb : 0 ≤ n ∧ n ≤ 255 := by
    simpa [Lit.wf, IntKind.min, IntKind.max, IntKind.bits, IntKind.signed] using wf
  exact ⟨UInt8.ofNat n.toNat, by simp; omega⟩
theorem judge_kind {p : Lx.Tx} {k : Nat} (h : (Lx.judge p).1 = some k) : k ≤ 2 := by
  match p with
  | [] => simp [Lx.judge] at h
  | b :: t =>
    unfold Lx.judge at h
    simp only at h
    split at h
    · simp at h
    · split at h
      · simp at h; omega
      · split at h
        · simp at h; omega
        · split at h
          · simp at h; omega
          · simp at h
theorem one_byte (b : UInt8) : (∃ e, e ≠ 0 ∧ Lx.toks [32, b, 32] = ⟨[], 1, e⟩) ∨ Lx.toks [32, b, 32] = ⟨[], 0, 0⟩ ∨ ∃ k, k ≤ 2 ∧ Lx.toks [32, b, 32] = ⟨[⟨k, [b], 1⟩], 0, 0⟩ := by
  have h0 : Lx.toks [32, b, 32] = Lx.scan [32, b, 32] 1 [] := by
    unfold Lx.toks
    rw [if_neg (by simp)]
    exact Lx.scan_step (p := [32]) (m := 1) (k := none) (by simp) (by simp [Lx.pieceLen, Lx.inWord, Lx.letter, Lx.digit, Lx.isOp, Lx.ops2]) (by simp) (by decide)
  rw [h0]
  by_cases h35 : b = 35
  · subst h35
    rw [Lx.scan_step (p := [35, 32]) (m := 2) (k := none) (by decide) (by decide) (by decide) (by decide), Lx.scan_end (by decide)]
    exact .inr (.inl rfl)
  · have hm : Lx.pieceLen (([32, b, 32] : Lx.Tx).drop 1) = 1 := by
      show Lx.pieceLen [b, 32] = 1
      rw [Lx.pl_cons, if_neg (by simp [h35])]
      by_cases hw : Lx.inWord b = true
      · rw [if_pos hw]
        rfl
      · rw [if_neg hw]
        simp only
        rw [if_neg (by simp [Lx.isOp, Lx.ops2])]
    have hp : (([32, b, 32] : Lx.Tx).drop 1).take 1 = [b] := rfl
    obtain ⟨⟨k, e⟩, hj⟩ : ∃ j, j = Lx.judge [b] := ⟨_, rfl⟩
    by_cases he : e = 0
    · subst he
      have h2 : ∀ X, Lx.scan [32, b, 32] (1 + 1) X = ⟨X, 0, 0⟩ := fun X => by
        have h3 := Lx.scan_step (s := [32, b, 32]) (f := 1 + 1) (acc := X) (p := [32]) (m := 1) (k := none) (by simp) (show Lx.pieceLen [32] = 1 by decide) rfl (by decide)
        rw [h3, Lx.scan_end (by simp)]; rfl
      rw [Lx.scan_step (by simp) hm hp hj.symm, h2]
      cases k with
      | none => exact .inr (.inl rfl)
      | some k => exact .inr (.inr ⟨k, judge_kind (p := [b]) (by rw [← hj]), rfl⟩)
    · exact .inl ⟨e, he, Lx.scan_err (by simp) hm hp hj.symm he⟩
set_option maxHeartbeats 2000000 in
set_option maxRecDepth 100000 in
theorem lbytes_any (w : World) (he : ErrAt w) (n : Int) (wf : (Lit.int .u8 n).wf = true) :
    Calls Tryd.prog 7 #[.int .u8 n] w (Yes w) := by
  have HK0 := Lib.hid (known_any w he)
  have HE := Lib.hid he
  clear he
  go_enter Tryd.func7, Tryd.ntmps7
  go_wp2_with fail
  refine (HK0.out).mono ?_
  rintro e w1 ⟨rfl, hk1⟩
  have HK1 := Lib.hid hk1
  clear hk1
  obtain ⟨b, rfl⟩ := byte_of wf
  have hcv : (convert 31 9 (.slice (some ⟨w1.heap.size, 0, none⟩) 1 1)).run Tryd.prog (w1.alloc (.cells #[.int .u8 ((b.toNat : Nat) : Int)] 5)) = .ok (.string (strO [b])) (w1.alloc (.cells #[.int .u8 ((b.toNat : Nat) : Int)] 5)) :=
    conv_bytes _ w1.heap.size _ [b] 1 (.inr ⟨0, rfl, fun k hk => by
      obtain rfl : k = 0 := by simpa using hk
      rw [cell_new]; rfl⟩)
  obtain ⟨sb, hsb⟩ : ∃ x, x = strO [b] := ⟨_, rfl⟩
  rw [← hsb] at hcv
  have hz1 : sb.size ≤ 1 := by rw [hsb, strO_len]; simp
  have hstr : (⟨#[32]⟩ ++ sb ++ ⟨#[32]⟩ : ByteArray) = strO [32, b, 32] := by
    rw [hsb, show (⟨#[32]⟩ : ByteArray) = strO [32] from rfl, strO_add, strO_add]; rfl
  have HT := Lib.hid (fun w' (h : ErrAt w') => tokens_any w' [32, b, 32] (by simp) h)
  have HR := Lib.hid (fun w' => rtokens_any w' [32, b, 32] (by simp))
  rw [← hstr] at HT HR
  have h1 := one_byte b
  clear hsb wf hstr
  rcases h1 with ⟨er, her, ho⟩ | ho | ⟨k, hk, ho⟩
  · rw [ho] at HT HR
    obtain ⟨ei, hei⟩ : ∃ x : Int, x = ((er : Nat) : Int) := ⟨_, rfl⟩
    have hne : (ei == 0) = false := by rw [hei]; simp; omega
    have HEI := Lib.hid hei
    clear ho her hei
    go_wp2_with fail
    refine (HT.out _ ((HE.out.keep HK1.out).keep ((Keeps.refl _ _).alloc _))).mono ?_
    rintro e w2 ⟨A, c, g, rfl, hti, _, hk2⟩
    have HK2 := Lib.hid ((HK1.out.alloc _).trans hk2 (by simp))
    have HTI := Lib.hid hti
    rw [← HEI.out]
    clear hk2 hti
    go_wp2_with fail
    refine (HR.out w2).mono ?_
    rintro e w3 ⟨A', c', g', rfl, hti, _, hk3⟩
    have HS := Lib.hid (toks_same w3 g g' A A' c c' [] (HTI.out.keep hk3 (by simp)) hti (by simp))
    have HKB := Lib.hid hk3
    have HK3 := Lib.hid (HK2.out.trans hk3 (by simp))
    rw [← HEI.out]
    clear hk3 hti
    go_wp2_with fail
    refine (HS.out).mono ?_
    rintro e w4 ⟨rfl, hk4⟩
    have HK4 := Lib.hid (HK3.out.trans hk4 (by simp))
    clear hk4
    go_wp2_with fail
    go_ret
    exact ⟨rfl, HK4.out⟩
  · rw [ho] at HT HR
    clear ho
    go_wp2_with fail
    refine (HT.out _ ((HE.out.keep HK1.out).keep ((Keeps.refl _ _).alloc _))).mono ?_
    rintro e w2 ⟨A, c, g, rfl, hti, _, hk2⟩
    have HK2 := Lib.hid ((HK1.out.alloc _).trans hk2 (by simp))
    have HTI := Lib.hid hti
    clear hk2 hti
    go_wp2_with fail
    refine (HR.out w2).mono ?_
    rintro e w3 ⟨A', c', g', rfl, hti, _, hk3⟩
    have HS := Lib.hid (toks_same w3 g g' A A' c c' [] (HTI.out.keep hk3 (by simp)) hti (by simp))
    have HKB := Lib.hid hk3
    have HK3 := Lib.hid (HK2.out.trans hk3 (by simp))
    clear hk3 hti
    go_wp2_with fail
    refine (HS.out).mono ?_
    rintro e w4 ⟨rfl, hk4⟩
    have HK4 := Lib.hid (HK3.out.trans hk4 (by simp))
    clear hk4
    go_wp2_with fail
    go_ret
    exact ⟨rfl, HK4.out⟩
  · rw [ho] at HT HR
    have hkd : decide ((k : Int) ≤ 2) = true := by simp; omega
    clear ho
    go_wp2_with fail
    refine (HT.out _ ((HE.out.keep HK1.out).keep ((Keeps.refl _ _).alloc _))).mono ?_
    rintro e w2 ⟨A, c, g, rfl, hti, _, hk2⟩
    have HK2 := Lib.hid ((HK1.out.alloc _).trans hk2 (by simp))
    have HTI := Lib.hid hti
    clear hk2 hti
    go_wp2_with fail
    refine (HR.out w2).mono ?_
    rintro e w3 ⟨A', c', g', rfl, hti, _, hk3⟩
    have HS := Lib.hid (toks_same w3 g g' A A' c c' [⟨k, [b], 1⟩] (HTI.out.keep hk3 (by simp)) hti (by simp))
    have HKB := Lib.hid hk3
    have HK3 := Lib.hid (HK2.out.trans hk3 (by simp))
    clear hk3 hti
    go_wp2_with fail
    refine (HS.out).mono ?_
    rintro e w4 ⟨rfl, hk4⟩
    have HK4 := Lib.hid (HK3.out.trans hk4 (by simp))
    have hti4 := (HTI.out.keep HKB.out (by simp)).keep hk4 (by simp)
    rcases hti4 with h0 | ⟨off, rfl, hc⟩
    · cases h0
    have c1 := (hc 0 (by simp)).1
    have c3 := (hc 0 (by simp)).2.2
    simp only [Nat.zero_mul, Nat.add_zero, List.getElem_cons_zero] at c1 c3
    clear hc
    clear hk4
    go_wp2_with fail
    go_ret
    exact ⟨rfl, HK4.out⟩
end Go.Proofs.YtieghhhiclpeiaaDoor
