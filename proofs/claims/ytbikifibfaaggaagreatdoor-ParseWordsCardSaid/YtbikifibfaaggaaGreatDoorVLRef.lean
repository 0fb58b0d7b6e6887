import Derived.Test.YtbikifibfaaggaaGreatDoorVMC
import Derived.Test.YtbikifibfaaggaaGreatDoorVMD
namespace Go.Proofs.YtbikifibfaaggaaGreatDoor
set_option maxHeartbeats 8000000
set_option maxRecDepth 100000
open Go.RowKit Go.Shelf
theorem one_any (w : World) (l : List UInt8) (b : UInt8) (hl : l.length ≤ 5000) :
 Calls Tryz.prog 56 #[.string (strO l), .int .u8 ((b.toNat : Nat) : Int)] w fun e w' => e = .returned (.bool (l.contains b)) ∧ w = w' := by
 obtain ⟨s, hs⟩ : ∃ s, s = strO l := ⟨_, rfl⟩
 have hsz : s.size = l.length := by rw [hs, strO_len]
 rw [← hs]
 obtain ⟨n, hn⟩ : ∃ n, n = l.length := ⟨_, rfl⟩
 rw [← hn] at hsz hl
 have HS := Hd hs
 have HN := Hd hn
 obtain ⟨r, hr⟩ : ∃ r, r = l.contains b := ⟨_, rfl⟩
 rw [← hr]
 have HR := Hd hr
 clear hs hn hr
 go_enter Tryz.func56, Tryz.ntmps56
 go_wp2_with fail
 go_loop [5] (fun iv => ∃ k : Nat, k ≤ n ∧ iv = .int .i64 (k : Int) ∧ b ∉ l.take k) (fun iv => n - (RowKit.intOf iv).toNat)
 case atStart => exact ⟨0, Nat.zero_le _, rfl, by simp⟩
 case round =>
  obtain ⟨k, hk, rfl, hm⟩ := hrel
  have HM := Hd hm
  clear hm
  by_cases hlt : k < n
  ·
   have hkl : k < l.length := by rw [← HN.out]; exact hlt
   have hg : l[k]? = some l[k] := List.getElem?_eq_getElem hkl
   have ik := idxN HS.out hg
   obtain ⟨c, hc⟩ : ∃ c, c = l[k] := ⟨_, rfl⟩
   rw [← hc] at ik
   have HTK := Hd (show l.take (k + 1) = l.take k ++ [c] by rw [List.take_succ_eq_append_getElem hkl, hc])
   have HMEM := Hd (show c ∈ l by rw [hc]; exact List.getElem_mem hkl)
   clear hkl hg hc
   by_cases he : c = b
   ·
    have e1 : (((c.toNat : Nat) : Int) == ((b.toNat : Nat) : Int)) = true := by rw [he]; simp
    go_wp2_with fail
    go_ret
    refine ⟨ret_bool ?_, rfl⟩
    rw [HR.out]
    have := HMEM.out
    rw [he] at this
    simp [this]
   ·
    have e1 : (((c.toNat : Nat) : Int) == ((b.toNat : Nat) : Int)) = false := by
     rw [Bool.eq_false_iff]
     intro h
     have := beq_iff_eq.1 h
     exact he (UInt8.toNat_inj.1 (by omega))
    have HM2 := Hd (show b ∉ l.take (k + 1) by rw [HTK.out]; have := HM.out; simp; exact ⟨this, fun h => he h.symm⟩)
    clear he
    go_wp2_with fail
    go_round
    case rel => exact ⟨k + 1, by omega, by go_num, HM2.out⟩
    case measure => simp [intOf]; omega
  ·
   go_wp2_with fail
   go_ret
   refine ⟨ret_bool ?_, rfl⟩
   rw [HR.out]
   have := HM.out
   rw [List.take_of_length_le (by have := HN.out; omega)] at this
   simp [this]
def NS (l : List UInt8) (f j : Nat) (a : Int) (g : Bool) : Prop :=
 (∀ x c, f ≤ x → x < j → l[x]? = some c → Lx.digit c = true) ∧ 0 ≤ a ∧ a ≤ 9223372036854775809 ∧ (g = false → a = ((Lx.val ((l.drop f).take (j - f)) : Nat) : Int)) ∧ (g = true → 9223372036854775807 < Lx.val ((l.drop f).take (j - f)) ∧ 922337203685477580 < a)
theorem NS.start (l : List UInt8) (f : Nat) : NS l f f 0 false := ⟨fun x c h1 h2 => by omega, by omega, by omega, fun _ => by simp [Lx.val], fun h => by cases h⟩
theorem NS.digs {l : List UInt8} {f j : Nat} {a : Int} {g : Bool} (h : NS l f j a g) {c : UInt8} (hc : l[j]? = some c) (hd : Lx.digit c = true) : ∀ x c, f ≤ x → x < j + 1 → l[x]? = some c → Lx.digit c = true := fun x c' h1 h2 h3 => by
 by_cases hx : x = j
 · rw [hx, hc] at h3; rw [← Option.some.inj h3]; exact hd
 · exact h.1 x c' h1 (by omega) h3
theorem NS.big {l : List UInt8} {f j : Nat} {a : Int} {g : Bool} (h : NS l f j a g) (hf : f ≤ j) {c : UInt8} (hc : l[j]? = some c) (hd : Lx.digit c = true) (ha : 922337203685477580 < a) : NS l f (j + 1) a true := by
 have hv := Lx.val_next hf hc
 refine ⟨h.digs hc hd, h.2.1, h.2.2.1, (fun h => by cases h), fun _ => ⟨?_, ha⟩⟩
 rw [hv]
 cases g with
 | false => have := h.2.2.2.1 rfl; omega
 | true => have := (h.2.2.2.2 rfl).1; omega
theorem NS.next {l : List UInt8} {f j : Nat} {a : Int} {g : Bool} (h : NS l f j a g) (hf : f ≤ j) {c : UInt8} (hc : l[j]? = some c) (hd : Lx.digit c = true) (ha : ¬ 922337203685477580 < a) : NS l f (j + 1) (10 * a + ((c.toNat - 48 : Nat) : Int)) g := by
 have hv := Lx.val_next hf hc
 have hd' := hd
 simp [Lx.digit] at hd'
 refine ⟨h.digs hc hd, by have := h.2.1; omega, by omega, fun hg => ?_, fun hg => absurd (h.2.2.2.2 hg).2 ha⟩
 rw [hv]
 have := h.2.2.2.1 hg
 omega
theorem rtokens_any (w : World) (l : List UInt8) (hl : l.length ≤ 5000) :
 Calls Tryz.prog 22 #[.string (strO l)] w (LexP w (Lx.toks l)) := by
 obtain ⟨s, hs⟩ : ∃ s, s = strO l := ⟨_, rfl⟩
 have hsz : s.size = l.length := by rw [hs, strO_len]
 obtain ⟨n, hn⟩ : ∃ n, n = l.length := ⟨_, rfl⟩
 rw [← hn] at hsz hl
 rw [← hs]
 have HS := Hd hs
 have HN := Hd hn
 clear hs hn
 by_cases hg : 4096 < n
 ·
  have HT := Hd (show Lx.toks l = ⟨[], 0, 53⟩ by unfold Lx.toks; rw [if_pos (by have := HN.out; omega)])
  go_enter Tryz.func22, Tryz.ntmps22
  go_wp2_with fail
  go_ret3
  rw [HT.out]
  exact ⟨none, 0, 0, rfl, .inl rfl, fun h => absurd rfl h, Keeps.refl _ _⟩
 ·
  have HT := Hd (show Lx.toks l = Lx.scan l 0 [] by unfold Lx.toks; rw [if_neg (by have := HN.out; omega)])
  obtain ⟨o, ho⟩ : ∃ o, o = Lx.toks l := ⟨_, rfl⟩
  rw [← ho] at HT ⊢
  obtain ⟨iP, hP, hP0, hP1, hP2⟩ := info_parts infoTok
  clear ho
  go_enter Tryz.func22, Tryz.ntmps22
  go_wp2_with fail
  go_loopw [5, 6] (fun tv iv wr => ∃ (f : Nat) (ts : List Lx.Tok), f ≤ n ∧ iv = .int .i64 (f : Int) ∧ wr.ownsRow w.heap.size 53 3 tv ts.length (tcells ts) ∧ Keeps [] w wr ∧ Lx.scan l f ts = o ∧ ts.length ≤ f) (fun _ iv _ => n - (RowKit.intOf iv).toNat)
  case atStart => exact ⟨0, [], Nat.zero_le _, rfl, World.ownsRow_nil _ _ _ _, Keeps.refl _ _, HT.out.symm, Nat.le_refl _⟩
  case round =>
   obtain ⟨f, ts, hf, rfl, ho, hkk, hsc, hts⟩ := hrel
   have HO := Hd ho
   have HK := Hd hkk
   have HSC := Hd hsc
   clear ho hkk hsc
   by_cases hlt : f < n
   ·
    have hfl : f < l.length := by rw [← HN.out]; exact hlt
    have hg0 : l[f]? = some l[f] := List.getElem?_eq_getElem hfl
    obtain ⟨b, hb⟩ : ∃ b, b = l[f] := ⟨_, rfl⟩
    rw [← hb] at hg0
    have i0 := idxN HS.out hg0
    have HB := Hd hg0
    clear hb hfl hg0
    cases hbk : Lx.blank b with
    | true =>
     have HST := Hd ((Lx.ref_blank (ts := ts) HB.out hbk).symm.trans HSC.out)
     have hcase := Lx.blank_ne hbk
     clear hbk
     as_aux_lemma =>
      rcases hcase with h | h | h | h
      ·
       have e32 : (((b.toNat : Nat) : Int) == 32) = true := by rw [h]; rfl
       clear h
       go_wp2_with fail
       go_roundw
       case rel => exact ⟨f + 1, ts, by omega, by go_num, HO.out, HK.out, HST.out, by omega⟩
       case measure => simp [intOf]; omega
      ·
       have e32 : (((b.toNat : Nat) : Int) == 32) = false := by rw [h]; rfl
       have e9 : (((b.toNat : Nat) : Int) == 9) = true := by rw [h]; rfl
       clear h
       go_wp2_with fail
       go_roundw
       case rel => exact ⟨f + 1, ts, by omega, by go_num, HO.out, HK.out, HST.out, by omega⟩
       case measure => simp [intOf]; omega
      ·
       have e32 : (((b.toNat : Nat) : Int) == 32) = false := by rw [h]; rfl
       have e9 : (((b.toNat : Nat) : Int) == 9) = false := by rw [h]; rfl
       have e13 : (((b.toNat : Nat) : Int) == 13) = true := by rw [h]; rfl
       clear h
       go_wp2_with fail
       go_roundw
       case rel => exact ⟨f + 1, ts, by omega, by go_num, HO.out, HK.out, HST.out, by omega⟩
       case measure => simp [intOf]; omega
      ·
       have e32 : (((b.toNat : Nat) : Int) == 32) = false := by rw [h]; rfl
       have e9 : (((b.toNat : Nat) : Int) == 9) = false := by rw [h]; rfl
       have e13 : (((b.toNat : Nat) : Int) == 13) = false := by rw [h]; rfl
       have e10 : (((b.toNat : Nat) : Int) == 10) = true := by rw [h]; rfl
       clear h
       go_wp2_with fail
       go_roundw
       case rel => exact ⟨f + 1, ts, by omega, by go_num, HO.out, HK.out, HST.out, by omega⟩
       case measure => simp [intOf]; omega
    | false =>
     have e32 : (((b.toNat : Nat) : Int) == 32) = false := by rw [show (((b.toNat : Nat) : Int) == 32) = (b == 32) from i8eq b 32 (by omega)]; unfold Lx.blank at hbk; simp at hbk; simp [hbk]
     have e9 : (((b.toNat : Nat) : Int) == 9) = false := by rw [show (((b.toNat : Nat) : Int) == 9) = (b == 9) from i8eq b 9 (by omega)]; unfold Lx.blank at hbk; simp at hbk; simp [hbk]
     have e13 : (((b.toNat : Nat) : Int) == 13) = false := by rw [show (((b.toNat : Nat) : Int) == 13) = (b == 13) from i8eq b 13 (by omega)]; unfold Lx.blank at hbk; simp at hbk; simp [hbk]
     have e10 : (((b.toNat : Nat) : Int) == 10) = false := by rw [show (((b.toNat : Nat) : Int) == 10) = (b == 10) from i8eq b 10 (by omega)]; unfold Lx.blank at hbk; simp at hbk; simp [hbk]
     by_cases h35 : b = 35
     ·
      have e35 : (((b.toNat : Nat) : Int) == 35) = true := by rw [h35]; rfl
      as_aux_lemma =>
       subst h35
       clear hbk
       go_wp2_with fail
       obtain ⟨wo, hwo⟩ : ∃ wo, wo = wr := ⟨_, rfl⟩
       subst hwo
       go_loopw [6] (fun iv wq => ∃ j : Nat, f ≤ j ∧ j ≤ n ∧ iv = .int .i64 (j : Int) ∧ Hid (∀ x c, f < x → x < j → l[x]? = some c → (c != 10) = true) ∧ wq = wo) (fun iv _ => n - (RowKit.intOf iv).toNat)
       case atStart => exact ⟨f, Nat.le_refl _, hf, rfl, Hd (fun x c h1 h2 => by omega), rfl⟩
       case round =>
        obtain ⟨j, hfj, hjn, rfl, HH, rfl⟩ := hrel
        by_cases hj : j < n
        ·
         have hjl : j < l.length := by rw [← HN.out]; exact hj
         have hgj : l[j]? = some l[j] := List.getElem?_eq_getElem hjl
         obtain ⟨c, hc⟩ : ∃ c, c = l[j] := ⟨_, rfl⟩
         rw [← hc] at hgj
         have ij := idxN HS.out hgj
         have HC := Hd hgj
         clear hc hjl hgj
         by_cases hc10 : (c != 10) = true
         ·
          have n10 : (((c.toNat : Nat) : Int) != 10) = true := by rw [← hc10]; exact i8ne c 10 (by omega)
          have HH2 : Hid (∀ x c, f < x → x < j + 1 → l[x]? = some c → (c != 10) = true) := Hd (fun x c' h1 h2 h3 => by
           by_cases hx : x = j
           · rw [hx, HC.out] at h3; rw [← Option.some.inj h3]; exact hc10
           · exact HH.out x c' h1 (by omega) h3)
          clear hc10
          go_wp2_with fail
          go_roundw
          case rel => exact ⟨j + 1, by omega, by omega, by go_num, HH2, by trivial⟩
          case measure => simp [intOf]; omega
         ·
          have n10 : (((c.toNat : Nat) : Int) != 10) = false := by rw [show (((c.toNat : Nat) : Int) != 10) = (c != 10) from i8ne c 10 (by omega)]; simpa using hc10
          have hfj2 : f < j := by
           by_cases h : f = j
           ·
            exfalso
            subst h
            have := HC.out
            rw [HB.out] at this
            have := Option.some.inj this
            rw [← this] at hc10
            exact hc10 rfl
           · omega
          have HST := Hd ((Lx.ref_hash (ts := ts) HB.out (by rw [← HN.out]; omega) hfj2 HH.out (fun c' h => by rw [HC.out] at h; rw [← Option.some.inj h]; simpa using hc10)).symm.trans HSC.out)
          clear hc10
          go_wp2_with fail
          go_roundw
          case rel => exact ⟨j, ts, by omega, by go_num, HO.out, HK.out, HST.out, by omega⟩
          case measure => simp [intOf]; omega
        ·
         have HST := Hd ((Lx.ref_hash (ts := ts) HB.out (by rw [← HN.out]; omega) (by omega) HH.out (fun c' h => by have := Lx.lt_of h; rw [← HN.out] at this; omega)).symm.trans HSC.out)
         go_wp2_with fail
         go_roundw
         case rel => exact ⟨j, ts, by omega, by go_num, HO.out, HK.out, HST.out, by omega⟩
         case measure => simp [intOf]; omega
     ·
      have e35 : (((b.toNat : Nat) : Int) == 35) = false := by rw [show (((b.toNat : Nat) : Int) == 35) = (b == 35) from i8eq b 35 (by omega)]; simp [h35]
      have h35' : (b == 35) = false := by simp [h35]
      cases hle : Lx.letter b with
      | true =>
       as_aux_lemma =>
        have HLT : Hid (∀ w', Calls Tryz.prog 54 #[.int .u8 ((b.toNat : Nat) : Int)] w' fun e w2 => e = .returned (.bool true) ∧ w' = w2) := Hd (fun w' => by rw [← hle]; exact rletter_any w' b)
        have HLE := Hd hle
        clear hbk h35 h35' hle
        go_wp2_with fail
        refine (same (HLT.out wr)) ?_
        go_wp2_with fail
        obtain ⟨wo, hwo⟩ : ∃ wo, wo = wr := ⟨_, rfl⟩
        subst hwo
        go_loopw [6] (fun iv wq => ∃ j : Nat, f ≤ j ∧ j ≤ n ∧ iv = .int .i64 (j : Int) ∧ Hid (∀ x c, f ≤ x → x < j → l[x]? = some c → Lx.inWord c = true) ∧ wq = wo) (fun iv _ => n - (RowKit.intOf iv).toNat)
        case atStart => exact ⟨f, Nat.le_refl _, hf, rfl, Hd (fun x c h1 h2 => by omega), rfl⟩
        case round =>
         obtain ⟨j, hfj, hjn, rfl, HH, rfl⟩ := hrel
         by_cases hj : j < n
         ·
          have hjl : j < l.length := by rw [← HN.out]; exact hj
          have hgj : l[j]? = some l[j] := List.getElem?_eq_getElem hjl
          obtain ⟨c, hc⟩ : ∃ c, c = l[j] := ⟨_, rfl⟩
          rw [← hc] at hgj
          have ij := idxN HS.out hgj
          have HC := Hd hgj
          clear hc hjl hgj
          have HH2 : Hid (Lx.inWord c = true → ∀ x c, f ≤ x → x < j + 1 → l[x]? = some c → Lx.inWord c = true) := Hd (fun hw x c' h1 h2 h3 => by
           by_cases hx : x = j
           · rw [hx, HC.out] at h3; rw [← Option.some.inj h3]; exact hw
           · exact HH.out x c' h1 (by omega) h3)
          cases hcl : Lx.letter c with
          | true =>
           have HCL : Hid (∀ w', Calls Tryz.prog 54 #[.int .u8 ((c.toNat : Nat) : Int)] w' fun e w2 => e = .returned (.bool true) ∧ w' = w2) := Hd (fun w' => by rw [← hcl]; exact rletter_any w' c)
           have HH3 := Hd (HH2.out (by unfold Lx.inWord; rw [hcl]; rfl))
           clear hcl HH2
           go_wp2_with fail
           refine (same (HCL.out wr)) ?_
           go_wp2_with fail
           go_roundw
           case rel => exact ⟨j + 1, by omega, by omega, by go_num, HH3, by trivial⟩
           case measure => simp [intOf]; omega
          | false =>
           have HCL : Hid (∀ w', Calls Tryz.prog 54 #[.int .u8 ((c.toNat : Nat) : Int)] w' fun e w2 => e = .returned (.bool false) ∧ w' = w2) := Hd (fun w' => by rw [← hcl]; exact rletter_any w' c)
           cases hcd : Lx.digit c with
           | true =>
            have HCD : Hid (∀ w', Calls Tryz.prog 55 #[.int .u8 ((c.toNat : Nat) : Int)] w' fun e w2 => e = .returned (.bool true) ∧ w' = w2) := Hd (fun w' => by rw [← hcd]; exact rdigit_any w' c)
            have HH3 := Hd (HH2.out (by unfold Lx.inWord; rw [hcd]; simp))
            clear hcl hcd HH2
            go_wp2_with fail
            refine (same (HCL.out wr)) ?_
            go_wp2_with fail
            refine (same (HCD.out wr)) ?_
            go_wp2_with fail
            go_roundw
            case rel => exact ⟨j + 1, by omega, by omega, by go_num, HH3, by trivial⟩
            case measure => simp [intOf]; omega
           | false =>
            have HCD : Hid (∀ w', Calls Tryz.prog 55 #[.int .u8 ((c.toNat : Nat) : Int)] w' fun e w2 => e = .returned (.bool false) ∧ w' = w2) := Hd (fun w' => by rw [← hcd]; exact rdigit_any w' c)
            have hcw : Lx.inWord c = false := by unfold Lx.inWord; rw [hcl, hcd]; rfl
            have hfj2 : f < j := by
             by_cases h : f = j
             ·
              exfalso
              subst h
              have := HC.out
              rw [HB.out] at this
              have := Option.some.inj this
              rw [← this, HLE.out] at hcl
              cases hcl
             · omega
            have HREF := Hd (Lx.ref_name (ts := ts) HB.out HLE.out (by rw [← HN.out]; omega) hfj2 (fun x c h1 h2 h3 => HH.out x c (by omega) h2 h3) (fun c' h => by rw [HC.out] at h; rw [← Option.some.inj h]; exact hcw))
            clear hcl hcd hcw HH2
            go_wp2_with fail
            refine (same (HCL.out wr)) ?_
            go_wp2_with fail
            refine (same (HCD.out wr)) ?_
            by_cases h32 : 32 < j - f
            ·
             have HRE := Hd (HSC.out.symm.trans (HREF.out.2 h32))
             have d32 : decide ((32 : Int) < (j : Int) - (f : Int)) = true := by simp; omega
             clear h32
             go_wp2_with fail
             go_ret3
             rw [HRE.out]
             exact ⟨none, 0, 0, rfl, .inl rfl, fun h => absurd rfl h, HK.out⟩
            ·
             have HST := Hd ((HREF.out.1 (by omega)).symm.trans HSC.out)
             have d32 : decide ((32 : Int) < (j : Int) - (f : Int)) = false := by simp; omega
             clear h32
             have HQP := Hd (show s.extract f j = strO ((l.drop f).take (j - f)) by rw [HS.out, strO_extract])
             have hts5 : ts.length ≤ 100000 := by omega
             go_wp2_with (at_builtin; refine wp_tok rfl _ _ rfl _ ts rfl HO.out 0 f (s.extract f j) 1 rfl ((l.drop f).take (j - f)) HQP.out hts5 HK.out ?_)
             intro v' w3 HO3 HK3
             go_wp2_with fail
             go_roundw
             case rel => exact ⟨j, ts ++ [Lx.Tok.mk 0 ((l.drop f).take (j - f)) f], by omega, by go_num, HO3.out, HK3.out, HST.out, by rw [List.length_append]; simp; omega⟩
             case measure => simp [intOf]; omega
         ·
          have HREF := Hd (Lx.ref_name (ts := ts) HB.out HLE.out (by rw [← HN.out]; omega) (by omega) (fun x c h1 h2 h3 => HH.out x c (by omega) h2 h3) (fun c' h => by have := Lx.lt_of h; rw [← HN.out] at this; omega))
          by_cases h32 : 32 < j - f
          ·
           have HRE := Hd (HSC.out.symm.trans (HREF.out.2 h32))
           have d32 : decide ((32 : Int) < (j : Int) - (f : Int)) = true := by simp; omega
           clear h32
           go_wp2_with fail
           go_ret3
           rw [HRE.out]
           exact ⟨none, 0, 0, rfl, .inl rfl, fun h => absurd rfl h, HK.out⟩
          ·
           have HST := Hd ((HREF.out.1 (by omega)).symm.trans HSC.out)
           have d32 : decide ((32 : Int) < (j : Int) - (f : Int)) = false := by simp; omega
           clear h32
           have HQP := Hd (show s.extract f j = strO ((l.drop f).take (j - f)) by rw [HS.out, strO_extract])
           have hts5 : ts.length ≤ 100000 := by omega
           go_wp2_with (at_builtin; refine wp_tok rfl _ _ rfl _ ts rfl HO.out 0 f (s.extract f j) 1 rfl ((l.drop f).take (j - f)) HQP.out hts5 HK.out ?_)
           intro v' w3 HO3 HK3
           go_wp2_with fail
           go_roundw
           case rel => exact ⟨j, ts ++ [Lx.Tok.mk 0 ((l.drop f).take (j - f)) f], by omega, by go_num, HO3.out, HK3.out, HST.out, by rw [List.length_append]; simp; omega⟩
           case measure => simp [intOf]; omega
      | false =>
       have HLT : Hid (∀ w', Calls Tryz.prog 54 #[.int .u8 ((b.toNat : Nat) : Int)] w' fun e w2 => e = .returned (.bool false) ∧ w' = w2) := Hd (fun w' => by rw [← hle]; exact rletter_any w' b)
       cases hdi : Lx.digit b with
       | true =>
        as_aux_lemma =>
         have HDT : Hid (∀ w', Calls Tryz.prog 55 #[.int .u8 ((b.toNat : Nat) : Int)] w' fun e w2 => e = .returned (.bool true) ∧ w' = w2) := Hd (fun w' => by rw [← hdi]; exact rdigit_any w' b)
         have HDI := Hd hdi
         clear hbk h35 h35' hle hdi
         go_wp2_with fail
         refine (same (HLT.out wr)) ?_
         go_wp2_with fail
         refine (same (HDT.out wr)) ?_
         go_wp2_with fail
         obtain ⟨wo, hwo⟩ : ∃ wo, wo = wr := ⟨_, rfl⟩
         subst hwo
         go_loopw [6, 9, 10] (fun iv nv gv wq => ∃ (j : Nat) (a : Int) (g : Bool), f ≤ j ∧ j ≤ n ∧ iv = .int .i64 (j : Int) ∧ nv = .int .u64 a ∧ gv = .bool g ∧ Hid (NS l f j a g) ∧ wq = wo) (fun iv _ _ _ => n - (RowKit.intOf iv).toNat)
         case atStart => exact ⟨f, 0, false, Nat.le_refl _, hf, rfl, rfl, rfl, Hd (NS.start l f), rfl⟩
         case round =>
          obtain ⟨j, a, g, hfj, hjn, rfl, rfl, rfl, HNS, rfl⟩ := hrel
          have ha0 := HNS.out.2.1
          have ha1 := HNS.out.2.2.1
          by_cases hj : j < n
          ·
           have hjl : j < l.length := by rw [← HN.out]; exact hj
           have hgj : l[j]? = some l[j] := List.getElem?_eq_getElem hjl
           obtain ⟨c, hc⟩ : ∃ c, c = l[j] := ⟨_, rfl⟩
           rw [← hc] at hgj
           have ij := idxN HS.out hgj
           have HC := Hd hgj
           clear hc hjl hgj
           cases hcd : Lx.digit c with
           | true =>
            have HCD : Hid (∀ w', Calls Tryz.prog 55 #[.int .u8 ((c.toNat : Nat) : Int)] w' fun e w2 => e = .returned (.bool true) ∧ w' = w2) := Hd (fun w' => by rw [← hcd]; exact rdigit_any w' c)
            have hcd' := hcd
            simp [Lx.digit] at hcd'
            by_cases hbig : 922337203685477580 < a
            ·
             have HNS2 := Hd (HNS.out.big hfj HC.out hcd hbig)
             clear hcd
             go_wp2_with fail
             refine (same (HCD.out wr)) ?_
             go_wp2_with fail
             go_roundw
             case rel => exact ⟨j + 1, a, true, by omega, by omega, by go_num, rfl, rfl, HNS2, by trivial⟩
             case measure => simp [intOf]; omega
            ·
             have HNS2 := Hd (HNS.out.next hfj HC.out hcd hbig)
             obtain ⟨m, hm⟩ : ∃ m, m = c.toNat - 48 := ⟨_, rfl⟩
             rw [← hm] at HNS2
             have hm9 : m ≤ 9 := by omega
             have hcm : ((c.toNat : Nat) : Int) = (m : Int) + 48 := by omega
             rw [hcm] at ij HCD
             clear hcd hm hcm hcd'
             have hbig' : a ≤ 922337203685477580 := by omega
             go_wp2_with fail
             refine (same (HCD.out wr)) ?_
             go_wp2_with fail
             go_roundw
             case rel => exact ⟨j + 1, 10 * a + (m : Int), g, by omega, by omega, by go_num, by go_num, rfl, HNS2, by trivial⟩
             case measure => simp [intOf]; omega
           | false =>
            have HCD : Hid (∀ w', Calls Tryz.prog 55 #[.int .u8 ((c.toNat : Nat) : Int)] w' fun e w2 => e = .returned (.bool false) ∧ w' = w2) := Hd (fun w' => by rw [← hcd]; exact rdigit_any w' c)
            have hfj2 : f < j := by
             by_cases h : f = j
             ·
              exfalso
              subst h
              have := HC.out
              rw [HB.out] at this
              have := Option.some.inj this
              rw [← this, HDI.out] at hcd
              cases hcd
             · omega
            have HREF := Hd (Lx.ref_num (ts := ts) HB.out HDI.out (by rw [← HN.out]; omega) hfj2 (fun x c h1 h2 h3 => HNS.out.1 x c (by omega) h2 h3) (fun c' h => by rw [HC.out] at h; rw [← Option.some.inj h]; exact hcd))
            clear hcd
            cases hcl : Lx.letter c with
            | true =>
             have HCL : Hid (∀ w', Calls Tryz.prog 54 #[.int .u8 ((c.toNat : Nat) : Int)] w' fun e w2 => e = .returned (.bool true) ∧ w' = w2) := Hd (fun w' => by rw [← hcl]; exact rletter_any w' c)
             have HCLL := Hd hcl
             clear hcl
             go_wp2_with fail
             refine (same (HCD.out wr)) ?_
             by_cases hv : 9223372036854775807 < Lx.val ((l.drop f).take (j - f))
             ·
              have HRE := Hd (HSC.out.symm.trans (HREF.out.1 hv))
              have HV := Hd hv
              clear hv
              cases g with
              | true =>
               go_wp2_with fail
               go_ret3
               rw [HRE.out]
               exact ⟨none, 0, 0, rfl, .inl rfl, fun h => absurd rfl h, HK.out⟩
              | false =>
               have hgt : (9223372036854775807 : Int) < a := by have := HNS.out.2.2.2.1 rfl; have := HV.out; omega
               go_wp2_with fail
               go_ret3
               rw [HRE.out]
               exact ⟨none, 0, 0, rfl, .inl rfl, fun h => absurd rfl h, HK.out⟩
             ·
              have hg0 : g = false := by
               cases g with
               | false => rfl
               | true => exact absurd (HNS.out.2.2.2.2 rfl).1 hv
              subst hg0
              have hgt : ¬ (9223372036854775807 : Int) < a := by have := HNS.out.2.2.2.1 rfl; omega
              have HRE := Hd (HSC.out.symm.trans (HREF.out.2.1 hv (.inl ⟨c, HC.out, HCLL.out⟩)))
              clear hv
              go_wp2_with fail
              refine (same (HCL.out wr)) ?_
              go_wp2_with fail
              go_ret3
              rw [HRE.out]
              exact ⟨none, 0, 0, rfl, .inl rfl, fun h => absurd rfl h, HK.out⟩
            | false =>
             have HCL : Hid (∀ w', Calls Tryz.prog 54 #[.int .u8 ((c.toNat : Nat) : Int)] w' fun e w2 => e = .returned (.bool false) ∧ w' = w2) := Hd (fun w' => by rw [← hcl]; exact rletter_any w' c)
             have HCLL := Hd hcl
             clear hcl
             go_wp2_with fail
             refine (same (HCD.out wr)) ?_
             by_cases hv : 9223372036854775807 < Lx.val ((l.drop f).take (j - f))
             ·
              have HRE := Hd (HSC.out.symm.trans (HREF.out.1 hv))
              have HV := Hd hv
              clear hv
              cases g with
              | true =>
               go_wp2_with fail
               go_ret3
               rw [HRE.out]
               exact ⟨none, 0, 0, rfl, .inl rfl, fun h => absurd rfl h, HK.out⟩
              | false =>
               have hgt : (9223372036854775807 : Int) < a := by have := HNS.out.2.2.2.1 rfl; have := HV.out; omega
               go_wp2_with fail
               go_ret3
               rw [HRE.out]
               exact ⟨none, 0, 0, rfl, .inl rfl, fun h => absurd rfl h, HK.out⟩
             ·
              have hg0 : g = false := by
               cases g with
               | false => rfl
               | true => exact absurd (HNS.out.2.2.2.2 rfl).1 hv
              subst hg0
              have hgt : ¬ (9223372036854775807 : Int) < a := by have := HNS.out.2.2.2.1 rfl; omega
              by_cases h48 : b = 48
              ·
               have e48 : (((b.toNat : Nat) : Int) == 48) = true := by rw [h48]; rfl
               by_cases h1 : 1 < j - f
               ·
                have HRE := Hd (HSC.out.symm.trans (HREF.out.2.1 hv (.inr ⟨h48, h1⟩)))
                have d1 : decide ((1 : Int) < (j : Int) - (f : Int)) = true := by simp; omega
                clear hv h48 h1
                go_wp2_with fail
                refine (same (HCL.out wr)) ?_
                go_wp2_with fail
                go_ret3
                rw [HRE.out]
                exact ⟨none, 0, 0, rfl, .inl rfl, fun h => absurd rfl h, HK.out⟩
               ·
                have HST := Hd ((HREF.out.2.2 hv (by rintro (h | ⟨_, h⟩); exact (show ¬ _ from by rintro ⟨c1, h1, h2⟩; rw [HC.out] at h1; rw [← Option.some.inj h1, HCLL.out] at h2; cases h2) h; exact h1 h)).symm.trans HSC.out)
                have d1 : decide ((1 : Int) < (j : Int) - (f : Int)) = false := by simp; omega
                clear hv h48 h1
                go_wp2_with fail
                refine (same (HCL.out wr)) ?_
                have HQP := Hd (show s.extract f j = strO ((l.drop f).take (j - f)) by rw [HS.out, strO_extract])
                have hts5 : ts.length ≤ 100000 := by omega
                go_wp2_with (at_builtin; refine wp_tok rfl _ _ rfl _ ts rfl HO.out 1 f (s.extract f j) 1 rfl ((l.drop f).take (j - f)) HQP.out hts5 HK.out ?_)
                intro v' w3 HO3 HK3
                go_wp2_with fail
                go_roundw
                case rel => exact ⟨j, ts ++ [Lx.Tok.mk 1 ((l.drop f).take (j - f)) f], by omega, by go_num, HO3.out, HK3.out, HST.out, by rw [List.length_append]; simp; omega⟩
                case measure => simp [intOf]; omega
              ·
               have e48 : (((b.toNat : Nat) : Int) == 48) = false := by rw [show (((b.toNat : Nat) : Int) == 48) = (b == 48) from i8eq b 48 (by omega)]; simp [h48]
               have HST := Hd ((HREF.out.2.2 hv (by rintro (h | ⟨h, _⟩); exact (show ¬ _ from by rintro ⟨c1, h1, h2⟩; rw [HC.out] at h1; rw [← Option.some.inj h1, HCLL.out] at h2; cases h2) h; exact h48 h)).symm.trans HSC.out)
               clear hv h48
               go_wp2_with fail
               refine (same (HCL.out wr)) ?_
               have HQP := Hd (show s.extract f j = strO ((l.drop f).take (j - f)) by rw [HS.out, strO_extract])
               have hts5 : ts.length ≤ 100000 := by omega
               go_wp2_with (at_builtin; refine wp_tok rfl _ _ rfl _ ts rfl HO.out 1 f (s.extract f j) 1 rfl ((l.drop f).take (j - f)) HQP.out hts5 HK.out ?_)
               intro v' w3 HO3 HK3
               go_wp2_with fail
               go_roundw
               case rel => exact ⟨j, ts ++ [Lx.Tok.mk 1 ((l.drop f).take (j - f)) f], by omega, by go_num, HO3.out, HK3.out, HST.out, by rw [List.length_append]; simp; omega⟩
               case measure => simp [intOf]; omega
          ·
           have HREF := Hd (Lx.ref_num (ts := ts) HB.out HDI.out (by rw [← HN.out]; omega) (by omega) (fun x c h1 h2 h3 => HNS.out.1 x c (by omega) h2 h3) (fun c' h => by have := Lx.lt_of h; rw [← HN.out] at this; omega))
           by_cases hv : 9223372036854775807 < Lx.val ((l.drop f).take (j - f))
           ·
            have HRE := Hd (HSC.out.symm.trans (HREF.out.1 hv))
            have HV := Hd hv
            clear hv
            cases g with
            | true =>
             go_wp2_with fail
             go_ret3
             rw [HRE.out]
             exact ⟨none, 0, 0, rfl, .inl rfl, fun h => absurd rfl h, HK.out⟩
            | false =>
             have hgt : (9223372036854775807 : Int) < a := by have := HNS.out.2.2.2.1 rfl; have := HV.out; omega
             go_wp2_with fail
             go_ret3
             rw [HRE.out]
             exact ⟨none, 0, 0, rfl, .inl rfl, fun h => absurd rfl h, HK.out⟩
           ·
            have hg0 : g = false := by
             cases g with
             | false => rfl
             | true => exact absurd (HNS.out.2.2.2.2 rfl).1 hv
            subst hg0
            have hgt : ¬ (9223372036854775807 : Int) < a := by have := HNS.out.2.2.2.1 rfl; omega
            by_cases h48 : b = 48
            ·
             have e48 : (((b.toNat : Nat) : Int) == 48) = true := by rw [h48]; rfl
             by_cases h1 : 1 < j - f
             ·
              have HRE := Hd (HSC.out.symm.trans (HREF.out.2.1 hv (.inr ⟨h48, h1⟩)))
              have d1 : decide ((1 : Int) < (j : Int) - (f : Int)) = true := by simp; omega
              clear hv h48 h1
              go_wp2_with fail
              go_ret3
              rw [HRE.out]
              exact ⟨none, 0, 0, rfl, .inl rfl, fun h => absurd rfl h, HK.out⟩
             ·
              have HST := Hd ((HREF.out.2.2 hv (by rintro (h | ⟨_, h⟩); exact (show ¬ _ from by rintro ⟨c1, h1, _⟩; have := Lx.lt_of h1; rw [← HN.out] at this; omega) h; exact h1 h)).symm.trans HSC.out)
              have d1 : decide ((1 : Int) < (j : Int) - (f : Int)) = false := by simp; omega
              clear hv h48 h1
              have HQP := Hd (show s.extract f j = strO ((l.drop f).take (j - f)) by rw [HS.out, strO_extract])
              have hts5 : ts.length ≤ 100000 := by omega
              go_wp2_with (at_builtin; refine wp_tok rfl _ _ rfl _ ts rfl HO.out 1 f (s.extract f j) 1 rfl ((l.drop f).take (j - f)) HQP.out hts5 HK.out ?_)
              intro v' w3 HO3 HK3
              go_wp2_with fail
              go_roundw
              case rel => exact ⟨j, ts ++ [Lx.Tok.mk 1 ((l.drop f).take (j - f)) f], by omega, by go_num, HO3.out, HK3.out, HST.out, by rw [List.length_append]; simp; omega⟩
              case measure => simp [intOf]; omega
            ·
             have e48 : (((b.toNat : Nat) : Int) == 48) = false := by rw [show (((b.toNat : Nat) : Int) == 48) = (b == 48) from i8eq b 48 (by omega)]; simp [h48]
             have HST := Hd ((HREF.out.2.2 hv (by rintro (h | ⟨h, _⟩); exact (show ¬ _ from by rintro ⟨c1, h1, _⟩; have := Lx.lt_of h1; rw [← HN.out] at this; omega) h; exact h48 h)).symm.trans HSC.out)
             clear hv h48
             have HQP := Hd (show s.extract f j = strO ((l.drop f).take (j - f)) by rw [HS.out, strO_extract])
             have hts5 : ts.length ≤ 100000 := by omega
             go_wp2_with (at_builtin; refine wp_tok rfl _ _ rfl _ ts rfl HO.out 1 f (s.extract f j) 1 rfl ((l.drop f).take (j - f)) HQP.out hts5 HK.out ?_)
             intro v' w3 HO3 HK3
             go_wp2_with fail
             go_roundw
             case rel => exact ⟨j, ts ++ [Lx.Tok.mk 1 ((l.drop f).take (j - f)) f], by omega, by go_num, HO3.out, HK3.out, HST.out, by rw [List.length_append]; simp; omega⟩
             case measure => simp [intOf]; omega
       | false =>
        as_aux_lemma =>
         have HDT : Hid (∀ w', Calls Tryz.prog 55 #[.int .u8 ((b.toNat : Nat) : Int)] w' fun e w2 => e = .returned (.bool false) ∧ w' = w2) := Hd (fun w' => by rw [← hdi]; exact rdigit_any w' b)
         have HONE : Hid (∀ w', Calls Tryz.prog 56 #[.string ⟨#[61, 60, 62, 43, 45, 42, 47, 37, 38, 33, 40, 41, 123, 125, 91, 93, 44, 59]⟩, .int .u8 ((b.toNat : Nat) : Int)] w' fun e w2 => e = .returned (.bool (Lx.ops1.contains b)) ∧ w' = w2) := Hd (fun w' => one_any w' Lx.ops1 b (by decide))
         have HQ1 := Hd (show s.extract f (f + 1) = strO [b] by rw [HS.out, strO_extract, Lx.drop_cons HB.out]; simp)
         have HR1 := Hd (fun h => Lx.ref_one (ts := ts) HB.out h35' hbk hdi hle h)
         clear hbk h35 h35' hle hdi
         by_cases hnx : f + 1 < n
         ·
          have hjl : f + 1 < l.length := by rw [← HN.out]; exact hnx
          have hgj : l[f + 1]? = some l[f + 1] := List.getElem?_eq_getElem hjl
          obtain ⟨c, hc⟩ : ∃ c, c = l[f + 1] := ⟨_, rfl⟩
          rw [← hc] at hgj
          have HC := Hd hgj
          clear hc hjl hgj
          have HQ2 := Hd (show s.extract f (f + 2) = strO [b, c] by rw [HS.out, strO_extract, Lx.drop_cons HB.out, Lx.drop_cons HC.out]; simp)
          by_cases htw : (b = 61 ∧ c = 61) ∨ (b = 33 ∧ c = 61) ∨ (b = 60 ∧ c = 61) ∨ (b = 62 ∧ c = 61) ∨ (b = 38 ∧ c = 38) ∨ (b = 124 ∧ c = 124)
          ·
           rcases htw with ⟨h1, h2⟩ | ⟨h1, h2⟩ | ⟨h1, h2⟩ | ⟨h1, h2⟩ | ⟨h1, h2⟩ | ⟨h1, h2⟩
           ·
            have t0 : ((s.extract f (f + 2)).toList == [61, 61]) = true := by rw [HQ2.out, strO_toList, h1, h2]; rfl
            have HST := Hd ((Lx.ref_two (ts := ts) HB.out HC.out (by rw [h1, h2]; rfl)).symm.trans HSC.out)
            have hle2 : f + 2 ≤ n := by omega
            have hs2 : (s.extract f (f + 2)).size = 2 := by rw [HQ2.out, strO_len]; rfl
            clear h1 h2
            go_wp2_with fail
            refine (same (HLT.out wr)) ?_
            go_wp2_with fail
            refine (same (HDT.out wr)) ?_
            have HQP := Hd (show s.extract f (f + 2) = strO ([b, c]) by rw [HS.out, strO_extract]; rw [Lx.drop_cons HB.out, Lx.drop_cons HC.out]; simp)
            have hts5 : ts.length ≤ 100000 := by omega
            go_wp2_with (at_builtin; refine wp_tok rfl _ _ rfl _ ts rfl HO.out 2 f (s.extract f (f + 2)) 1 rfl ([b, c]) HQP.out hts5 HK.out ?_)
            intro v' w3 HO3 HK3
            go_wp2_with fail
            go_roundw
            case rel => exact ⟨f + 2, ts ++ [Lx.Tok.mk 2 [b, c] f], by omega, by go_num, HO3.out, HK3.out, HST.out, by rw [List.length_append]; simp; omega⟩
            case measure => simp [intOf]; omega
           ·
            have t0 : ((s.extract f (f + 2)).toList == [61, 61]) = false := by rw [HQ2.out, strO_toList, h1, h2]; rfl
            have t1 : ((s.extract f (f + 2)).toList == [33, 61]) = true := by rw [HQ2.out, strO_toList, h1, h2]; rfl
            have HST := Hd ((Lx.ref_two (ts := ts) HB.out HC.out (by rw [h1, h2]; rfl)).symm.trans HSC.out)
            have hle2 : f + 2 ≤ n := by omega
            have hs2 : (s.extract f (f + 2)).size = 2 := by rw [HQ2.out, strO_len]; rfl
            clear h1 h2
            go_wp2_with fail
            refine (same (HLT.out wr)) ?_
            go_wp2_with fail
            refine (same (HDT.out wr)) ?_
            have HQP := Hd (show s.extract f (f + 2) = strO ([b, c]) by rw [HS.out, strO_extract]; rw [Lx.drop_cons HB.out, Lx.drop_cons HC.out]; simp)
            have hts5 : ts.length ≤ 100000 := by omega
            go_wp2_with (at_builtin; refine wp_tok rfl _ _ rfl _ ts rfl HO.out 2 f (s.extract f (f + 2)) 1 rfl ([b, c]) HQP.out hts5 HK.out ?_)
            intro v' w3 HO3 HK3
            go_wp2_with fail
            go_roundw
            case rel => exact ⟨f + 2, ts ++ [Lx.Tok.mk 2 [b, c] f], by omega, by go_num, HO3.out, HK3.out, HST.out, by rw [List.length_append]; simp; omega⟩
            case measure => simp [intOf]; omega
           ·
            have t0 : ((s.extract f (f + 2)).toList == [61, 61]) = false := by rw [HQ2.out, strO_toList, h1, h2]; rfl
            have t1 : ((s.extract f (f + 2)).toList == [33, 61]) = false := by rw [HQ2.out, strO_toList, h1, h2]; rfl
            have t2 : ((s.extract f (f + 2)).toList == [60, 61]) = true := by rw [HQ2.out, strO_toList, h1, h2]; rfl
            have HST := Hd ((Lx.ref_two (ts := ts) HB.out HC.out (by rw [h1, h2]; rfl)).symm.trans HSC.out)
            have hle2 : f + 2 ≤ n := by omega
            have hs2 : (s.extract f (f + 2)).size = 2 := by rw [HQ2.out, strO_len]; rfl
            clear h1 h2
            go_wp2_with fail
            refine (same (HLT.out wr)) ?_
            go_wp2_with fail
            refine (same (HDT.out wr)) ?_
            have HQP := Hd (show s.extract f (f + 2) = strO ([b, c]) by rw [HS.out, strO_extract]; rw [Lx.drop_cons HB.out, Lx.drop_cons HC.out]; simp)
            have hts5 : ts.length ≤ 100000 := by omega
            go_wp2_with (at_builtin; refine wp_tok rfl _ _ rfl _ ts rfl HO.out 2 f (s.extract f (f + 2)) 1 rfl ([b, c]) HQP.out hts5 HK.out ?_)
            intro v' w3 HO3 HK3
            go_wp2_with fail
            go_roundw
            case rel => exact ⟨f + 2, ts ++ [Lx.Tok.mk 2 [b, c] f], by omega, by go_num, HO3.out, HK3.out, HST.out, by rw [List.length_append]; simp; omega⟩
            case measure => simp [intOf]; omega
           ·
            have t0 : ((s.extract f (f + 2)).toList == [61, 61]) = false := by rw [HQ2.out, strO_toList, h1, h2]; rfl
            have t1 : ((s.extract f (f + 2)).toList == [33, 61]) = false := by rw [HQ2.out, strO_toList, h1, h2]; rfl
            have t2 : ((s.extract f (f + 2)).toList == [60, 61]) = false := by rw [HQ2.out, strO_toList, h1, h2]; rfl
            have t3 : ((s.extract f (f + 2)).toList == [62, 61]) = true := by rw [HQ2.out, strO_toList, h1, h2]; rfl
            have HST := Hd ((Lx.ref_two (ts := ts) HB.out HC.out (by rw [h1, h2]; rfl)).symm.trans HSC.out)
            have hle2 : f + 2 ≤ n := by omega
            have hs2 : (s.extract f (f + 2)).size = 2 := by rw [HQ2.out, strO_len]; rfl
            clear h1 h2
            go_wp2_with fail
            refine (same (HLT.out wr)) ?_
            go_wp2_with fail
            refine (same (HDT.out wr)) ?_
            have HQP := Hd (show s.extract f (f + 2) = strO ([b, c]) by rw [HS.out, strO_extract]; rw [Lx.drop_cons HB.out, Lx.drop_cons HC.out]; simp)
            have hts5 : ts.length ≤ 100000 := by omega
            go_wp2_with (at_builtin; refine wp_tok rfl _ _ rfl _ ts rfl HO.out 2 f (s.extract f (f + 2)) 1 rfl ([b, c]) HQP.out hts5 HK.out ?_)
            intro v' w3 HO3 HK3
            go_wp2_with fail
            go_roundw
            case rel => exact ⟨f + 2, ts ++ [Lx.Tok.mk 2 [b, c] f], by omega, by go_num, HO3.out, HK3.out, HST.out, by rw [List.length_append]; simp; omega⟩
            case measure => simp [intOf]; omega
           ·
            have t0 : ((s.extract f (f + 2)).toList == [61, 61]) = false := by rw [HQ2.out, strO_toList, h1, h2]; rfl
            have t1 : ((s.extract f (f + 2)).toList == [33, 61]) = false := by rw [HQ2.out, strO_toList, h1, h2]; rfl
            have t2 : ((s.extract f (f + 2)).toList == [60, 61]) = false := by rw [HQ2.out, strO_toList, h1, h2]; rfl
            have t3 : ((s.extract f (f + 2)).toList == [62, 61]) = false := by rw [HQ2.out, strO_toList, h1, h2]; rfl
            have t4 : ((s.extract f (f + 2)).toList == [38, 38]) = true := by rw [HQ2.out, strO_toList, h1, h2]; rfl
            have HST := Hd ((Lx.ref_two (ts := ts) HB.out HC.out (by rw [h1, h2]; rfl)).symm.trans HSC.out)
            have hle2 : f + 2 ≤ n := by omega
            have hs2 : (s.extract f (f + 2)).size = 2 := by rw [HQ2.out, strO_len]; rfl
            clear h1 h2
            go_wp2_with fail
            refine (same (HLT.out wr)) ?_
            go_wp2_with fail
            refine (same (HDT.out wr)) ?_
            have HQP := Hd (show s.extract f (f + 2) = strO ([b, c]) by rw [HS.out, strO_extract]; rw [Lx.drop_cons HB.out, Lx.drop_cons HC.out]; simp)
            have hts5 : ts.length ≤ 100000 := by omega
            go_wp2_with (at_builtin; refine wp_tok rfl _ _ rfl _ ts rfl HO.out 2 f (s.extract f (f + 2)) 1 rfl ([b, c]) HQP.out hts5 HK.out ?_)
            intro v' w3 HO3 HK3
            go_wp2_with fail
            go_roundw
            case rel => exact ⟨f + 2, ts ++ [Lx.Tok.mk 2 [b, c] f], by omega, by go_num, HO3.out, HK3.out, HST.out, by rw [List.length_append]; simp; omega⟩
            case measure => simp [intOf]; omega
           ·
            have t0 : ((s.extract f (f + 2)).toList == [61, 61]) = false := by rw [HQ2.out, strO_toList, h1, h2]; rfl
            have t1 : ((s.extract f (f + 2)).toList == [33, 61]) = false := by rw [HQ2.out, strO_toList, h1, h2]; rfl
            have t2 : ((s.extract f (f + 2)).toList == [60, 61]) = false := by rw [HQ2.out, strO_toList, h1, h2]; rfl
            have t3 : ((s.extract f (f + 2)).toList == [62, 61]) = false := by rw [HQ2.out, strO_toList, h1, h2]; rfl
            have t4 : ((s.extract f (f + 2)).toList == [38, 38]) = false := by rw [HQ2.out, strO_toList, h1, h2]; rfl
            have t5 : ((s.extract f (f + 2)).toList == [124, 124]) = true := by rw [HQ2.out, strO_toList, h1, h2]; rfl
            have HST := Hd ((Lx.ref_two (ts := ts) HB.out HC.out (by rw [h1, h2]; rfl)).symm.trans HSC.out)
            have hle2 : f + 2 ≤ n := by omega
            have hs2 : (s.extract f (f + 2)).size = 2 := by rw [HQ2.out, strO_len]; rfl
            clear h1 h2
            go_wp2_with fail
            refine (same (HLT.out wr)) ?_
            go_wp2_with fail
            refine (same (HDT.out wr)) ?_
            have HQP := Hd (show s.extract f (f + 2) = strO ([b, c]) by rw [HS.out, strO_extract]; rw [Lx.drop_cons HB.out, Lx.drop_cons HC.out]; simp)
            have hts5 : ts.length ≤ 100000 := by omega
            go_wp2_with (at_builtin; refine wp_tok rfl _ _ rfl _ ts rfl HO.out 2 f (s.extract f (f + 2)) 1 rfl ([b, c]) HQP.out hts5 HK.out ?_)
            intro v' w3 HO3 HK3
            go_wp2_with fail
            go_roundw
            case rel => exact ⟨f + 2, ts ++ [Lx.Tok.mk 2 [b, c] f], by omega, by go_num, HO3.out, HK3.out, HST.out, by rw [List.length_append]; simp; omega⟩
            case measure => simp [intOf]; omega
          ·
           have hno : Lx.isOp [b, c] = false := by
            rw [Bool.eq_false_iff]
            intro h
            simp [Lx.isOp, Lx.ops2] at h
            exact htw h
           have HRF := Hd (HR1.out (fun c' h => by rw [HC.out] at h; rw [← Option.some.inj h]; exact hno))
           have t0 : ((s.extract f (f + 2)).toList == [61, 61]) = false := by rw [HQ2.out, strO_toList, Bool.eq_false_iff]; intro h; have := beq_iff_eq.1 h; simp at this; exact htw (by simp [this])
           have t1 : ((s.extract f (f + 2)).toList == [33, 61]) = false := by rw [HQ2.out, strO_toList, Bool.eq_false_iff]; intro h; have := beq_iff_eq.1 h; simp at this; exact htw (by simp [this])
           have t2 : ((s.extract f (f + 2)).toList == [60, 61]) = false := by rw [HQ2.out, strO_toList, Bool.eq_false_iff]; intro h; have := beq_iff_eq.1 h; simp at this; exact htw (by simp [this])
           have t3 : ((s.extract f (f + 2)).toList == [62, 61]) = false := by rw [HQ2.out, strO_toList, Bool.eq_false_iff]; intro h; have := beq_iff_eq.1 h; simp at this; exact htw (by simp [this])
           have t4 : ((s.extract f (f + 2)).toList == [38, 38]) = false := by rw [HQ2.out, strO_toList, Bool.eq_false_iff]; intro h; have := beq_iff_eq.1 h; simp at this; exact htw (by simp [this])
           have t5 : ((s.extract f (f + 2)).toList == [124, 124]) = false := by rw [HQ2.out, strO_toList, Bool.eq_false_iff]; intro h; have := beq_iff_eq.1 h; simp at this; exact htw (by simp [this])
           have hle2 : f + 2 ≤ n := by omega
           clear htw hno HR1
           cases hop : Lx.ops1.contains b with
           | true =>
            have HST := Hd ((HRF.out.1 hop).symm.trans HSC.out)
            rw [hop] at HONE
            clear hop
            go_wp2_with fail
            refine (same (HLT.out wr)) ?_
            go_wp2_with fail
            refine (same (HDT.out wr)) ?_
            go_wp2_with fail
            refine (same (HONE.out wr)) ?_
            have HQP := Hd (show s.extract f (f + 1) = strO ([b]) by rw [HS.out, strO_extract]; rw [Lx.drop_cons HB.out]; simp)
            have hts5 : ts.length ≤ 100000 := by omega
            go_wp2_with (at_builtin; refine wp_tok rfl _ _ rfl _ ts rfl HO.out 2 f (s.extract f (f + 1)) 1 rfl ([b]) HQP.out hts5 HK.out ?_)
            intro v' w3 HO3 HK3
            go_wp2_with fail
            go_roundw
            case rel => exact ⟨f + 1, ts ++ [Lx.Tok.mk 2 [b] f], by omega, by go_num, HO3.out, HK3.out, HST.out, by rw [List.length_append]; simp; omega⟩
            case measure => simp [intOf]; omega
           | false =>
            have HRE := Hd (HSC.out.symm.trans (HRF.out.2 hop))
            rw [hop] at HONE
            clear hop
            go_wp2_with fail
            refine (same (HLT.out wr)) ?_
            go_wp2_with fail
            refine (same (HDT.out wr)) ?_
            go_wp2_with fail
            refine (same (HONE.out wr)) ?_
            go_wp2_with fail
            go_ret3
            rw [HRE.out]
            exact ⟨none, 0, 0, rfl, .inl rfl, fun h => absurd rfl h, HK.out⟩
         ·
          have HRF := Hd (HR1.out (fun c' h => by have := Lx.lt_of h; rw [← HN.out] at this; omega))
          have hle2 : n < f + 2 := by omega
          clear HR1
          cases hop : Lx.ops1.contains b with
          | true =>
           have HST := Hd ((HRF.out.1 hop).symm.trans HSC.out)
           rw [hop] at HONE
           clear hop
           go_wp2_with fail
           refine (same (HLT.out wr)) ?_
           go_wp2_with fail
           refine (same (HDT.out wr)) ?_
           go_wp2_with fail
           refine (same (HONE.out wr)) ?_
           have HQP := Hd (show s.extract f (f + 1) = strO ([b]) by rw [HS.out, strO_extract]; rw [Lx.drop_cons HB.out]; simp)
           have hts5 : ts.length ≤ 100000 := by omega
           go_wp2_with (at_builtin; refine wp_tok rfl _ _ rfl _ ts rfl HO.out 2 f (s.extract f (f + 1)) 1 rfl ([b]) HQP.out hts5 HK.out ?_)
           intro v' w3 HO3 HK3
           go_wp2_with fail
           go_roundw
           case rel => exact ⟨f + 1, ts ++ [Lx.Tok.mk 2 [b] f], by omega, by go_num, HO3.out, HK3.out, HST.out, by rw [List.length_append]; simp; omega⟩
           case measure => simp [intOf]; omega
          | false =>
           have HRE := Hd (HSC.out.symm.trans (HRF.out.2 hop))
           rw [hop] at HONE
           clear hop
           go_wp2_with fail
           refine (same (HLT.out wr)) ?_
           go_wp2_with fail
           refine (same (HDT.out wr)) ?_
           go_wp2_with fail
           refine (same (HONE.out wr)) ?_
           go_wp2_with fail
           go_ret3
           rw [HRE.out]
           exact ⟨none, 0, 0, rfl, .inl rfl, fun h => absurd rfl h, HK.out⟩
   ·
    have hfn : f = n := by omega
    subst hfn
    obtain ⟨A, c, g, rfl, hti, htb⟩ := toks_of_own HO.out
    have HTI := Hd hti
    have HTB := Hd htb
    have HR2 := Hd (HSC.out.symm.trans (Lx.scan_end (by have := HN.out; omega)))
    clear hti htb
    go_wp2_with fail
    go_ret3
    rw [HR2.out]
    exact ⟨A, c, g, rfl, HTI.out, HTB.out, HK.out⟩
end Go.Proofs.YtbikifibfaaggaaGreatDoor
