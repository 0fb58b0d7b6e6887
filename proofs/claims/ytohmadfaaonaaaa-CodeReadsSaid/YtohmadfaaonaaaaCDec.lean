/- Decoding as Lean functions: 32-bit numbers, intervals, lists, summaries. -/
import Derived.Test.YtohmadfaaonaaaaCLight
import Derived.Test.YtohmadfaaonaaaaCTry
namespace Go.Proofs.Ytohmadfaaonaaaa
open Go.RowKit

namespace M
def decInt (l : List UInt8) : Option (Int × List UInt8) := match dec 0 0 l with | some (n, r) => some (unzig n, r) | none => none
def decCount (l : List UInt8) : Option (Nat × List UInt8) := match dec 0 0 l with | some (n, r) => if n ≤ r.length then some (n, r) else none | none => none
def decSmall (l : List UInt8) : Option (Int × List UInt8) := match decInt l with | some (z, r) => if -2147483648 ≤ z ∧ z ≤ 2147483647 then some (z, r) else none | none => none
def decStr (l : List UInt8) : Option (ByteArray × List UInt8) := match decText l with | some (s, r) => some (strOf s, r) | none => none
def decIv (l : List UInt8) : Option (Iv × List UInt8) := match decBool l with
  | some (false, r) => some (⟨false, 0, 0⟩, r)
  | some (true, r) => (match decInt r with | some (lo, r1) => (match decInt r1 with | some (hi, r2) => some (⟨true, lo, hi⟩, r2) | none => none) | none => none)
  | none => none
def decAl (l : List UInt8) : Option (Al × List UInt8) := match decSmall l with | some (a, r) => (match decSmall r with | some (k, r1) => some (⟨a, k⟩, r1) | none => none) | none => none
def decNm (l : List UInt8) : Option (Nm × List UInt8) := match decStr l with | some (s, r) => (match decIv r with | some (v, r1) => some (⟨s, v⟩, r1) | none => none) | none => none
def decMany {α : Type} (d : List UInt8 → Option (α × List UInt8)) : Nat → List UInt8 → Option (List α × List UInt8)
  | 0, l => some ([], l)
  | n + 1, l => match d l with | some (a, r) => (match decMany d n r with | some (x, r1) => some (a :: x, r1) | none => none) | none => none
/-- What a list gives that has been read up to xs. -/
def pre {α : Type} (xs : List α) : Option (List α × List UInt8) → Option (List α × List UInt8) := fun R => match R with | some (ys, r) => some (xs ++ ys, r) | none => none
def decList {α : Type} (d : List UInt8 → Option (α × List UInt8)) (l : List UInt8) : Option (List α × List UInt8) := match decCount l with | some (n, r) => decMany d n r | none => none
def decSm (l : List UInt8) : Option (Sm × List UInt8) := match decList decAl l with
  | none => none
  | some (als, r) => (match decBool r with
    | none => none
    | some (b, r1) => (match decIv r1 with
      | none => none
      | some (iv, r2) => (match decList decNm r2 with
        | none => none
        | some (ms, r3) => some (⟨als, b, iv, ms⟩, r3))))
section
variable {α : Type} {d : List UInt8 → Option (α × List UInt8)}
theorem pre_nil (R : Option (List α × List UInt8)) : pre [] R = R := by unfold pre; split <;> simp_all
theorem pre_zero (xs : List α) (l : List UInt8) : pre xs (decMany d 0 l) = some (xs, l) := by simp [pre, decMany]
theorem pre_none (xs : List α) {n : Nat} {l : List UInt8} (h : d l = none) : pre xs (decMany d (n + 1) l) = none := by simp [pre, decMany, h]
theorem pre_some (xs : List α) {n : Nat} {l r : List UInt8} {a : α} (h : d l = some (a, r)) : pre xs (decMany d (n + 1) l) = pre (xs ++ [a]) (decMany d n r) := by
  simp only [pre, decMany, h]
  cases decMany d n r with
  | none => rfl
  | some x => obtain ⟨y, r1⟩ := x; simp
/-- Reading back. -/
theorem decMany_back {enc : α → List UInt8} {f : α → α} : ∀ (xs : List α) (r : List UInt8), (∀ x ∈ xs, ∀ r, d (enc x ++ r) = some (f x, r)) → decMany d xs.length (xs.flatMap enc ++ r) = some (xs.map f, r)
  | [], r, _ => rfl
  | x :: xs, r, h => by
    have h1 := decMany_back (f := f) xs r (fun y hy => h y (by simp [hy]))
    have h2 := h x (by simp) (xs.flatMap enc ++ r)
    simp only [List.length_cons, List.flatMap_cons, List.append_assoc, decMany, h2, h1, List.map_cons]
end
theorem dec_len {l r : List UInt8} {n : Nat} (h : dec 0 0 l = some (n, r)) : r.length < l.length ∧ n < 18446744073709551616 := by
  obtain ⟨h1, k, h2, h3, h4⟩ := dec_some l 0 0 n r (by omega) (by simp) h
  subst h3
  simp; omega
theorem decInt_back {z : Int} (h : Wide z) (r : List UInt8) : decInt (encInt z ++ r) = some (z, r) := by
  unfold decInt encInt; rw [dec_back (zig_lt h.1 h.2)]; simp only [unzig_zig]
theorem decSmall_back {z : Int} (h1 : -2147483648 ≤ z) (h2 : z ≤ 2147483647) (r : List UInt8) : decSmall (encInt z ++ r) = some (z, r) := by
  unfold decSmall; rw [decInt_back (by unfold Wide; omega)]; exact if_pos ⟨h1, h2⟩
theorem decBool_back (b : Bool) (r : List UInt8) : decBool (encBool b ++ r) = some (b, r) := by cases b <;> rfl
def Iv.plain (v : Iv) : Iv := if v.some then v else ⟨false, 0, 0⟩
theorem decIv_back {v : Iv} (h : v.ok) (r : List UInt8) : decIv (encIv v ++ r) = some (Iv.plain v, r) := by
  obtain ⟨s, lo, hi⟩ := v
  unfold decIv encIv
  cases s with
  | false => rw [List.append_assoc, decBool_back]; simp [Iv.plain]
  | true =>
    simp only [if_true, List.append_assoc]
    rw [decBool_back]
    simp only []
    rw [decInt_back h.1]
    simp only []
    rw [decInt_back h.2]
    simp [Iv.plain]
def Al.small (a : Al) : Prop := (-2147483648 ≤ a.pos ∧ a.pos ≤ 2147483647) ∧ -2147483648 ≤ a.kind ∧ a.kind ≤ 2147483647
theorem decAl_back {a : Al} (h : Al.small a) (r : List UInt8) : decAl (encAl a ++ r) = some (a, r) := by
  unfold decAl encAl
  rw [List.append_assoc, decSmall_back h.1.1 h.1.2]
  simp only []
  rw [decSmall_back h.2.1 h.2.2]
theorem strOf_back (s : ByteArray) : strOf s.data.toList = s := by simp [strOf]
theorem decStr_back {s : ByteArray} (h : s.size < 18446744073709551616) (r : List UInt8) : decStr (encT s ++ r) = some (s, r) := by
  unfold decStr encT; rw [decText_back (show s.data.toList.length < _ from h)]; simp only [strOf_back]
def Nm.plain (m : Nm) : Nm := ⟨m.name, Iv.plain m.v⟩
theorem decNm_back {m : Nm} (h : m.v.ok) (hn : m.name.size < 18446744073709551616) (r : List UInt8) : decNm (encNm m ++ r) = some (Nm.plain m, r) := by
  unfold decNm encNm
  rw [List.append_assoc, decStr_back hn]
  simp only []
  rw [decIv_back h]
  rfl
theorem encAl_pos (a : Al) : 0 < (encAl a).length := by unfold encAl; rw [List.length_append]; have := enc_pos (zig a.pos); unfold encInt; omega
theorem encNm_pos (m : Nm) : 0 < (encNm m).length := by unfold encNm encIv; simp only [List.length_append, encBool, List.length_cons]; omega
theorem flat_ge {α : Type} {enc : α → List UInt8} (h : ∀ a, 0 < (enc a).length) : ∀ xs : List α, xs.length ≤ (xs.flatMap enc).length
  | [] => by simp
  | x :: xs => by have := flat_ge h xs; have := h x; simp only [List.flatMap_cons, List.length_append, List.length_cons]; omega
theorem decList_back {α : Type} {d : List UInt8 → Option (α × List UInt8)} {enc : α → List UInt8} {f : α → α} (hp : ∀ a, 0 < (enc a).length) (xs : List α) (r : List UInt8) (hx : xs.length < 18446744073709551616)
    (h : ∀ x ∈ xs, ∀ r, d (enc x ++ r) = some (f x, r)) : decList d (M.enc xs.length ++ xs.flatMap enc ++ r) = some (xs.map f, r) := by
  unfold decList decCount
  rw [List.append_assoc, dec_back hx]
  simp only []
  rw [if_pos (by have := flat_ge hp xs; rw [List.length_append]; omega)]
  simp only []
  exact decMany_back xs r h
def Sm.plain (s : Sm) : Sm := ⟨s.alarms, s.ends, Iv.plain s.ret, s.mod.map Nm.plain⟩
theorem decSm_back {s : Sm} (h : s.ok) (hs : ∀ a ∈ s.alarms, Al.small a) (hn : ∀ m ∈ s.mod, m.name.size < 18446744073709551616) (h1 : s.alarms.length < 18446744073709551616) (h2 : s.mod.length < 18446744073709551616) (r : List UInt8) :
    decSm (encSm s ++ r) = some (Sm.plain s, r) := by
  obtain ⟨als, b, iv, ms⟩ := s
  unfold decSm encSm
  simp only [] at h1 h2 hs hn ⊢
  have e1 : ∀ r, decList decAl (enc als.length ++ (als.flatMap encAl ++ r)) = some (als, r) := fun r => by
    have := decList_back (d := decAl) (f := id) encAl_pos als r h1 (fun x hx r => decAl_back (hs x hx) r)
    rw [List.append_assoc] at this
    simpa using this
  have e2 : ∀ r, decList decNm (enc ms.length ++ (ms.flatMap encNm ++ r)) = some (ms.map Nm.plain, r) := fun r => by
    have := decList_back (d := decNm) (f := Nm.plain) encNm_pos ms r h2 (fun x hx r => decNm_back (h.2.2 x hx) (hn x hx) r)
    rwa [List.append_assoc] at this
  simp only [List.append_assoc]
  rw [e1]
  simp only []
  rw [decBool_back]
  simp only []
  rw [decIv_back h.2.1]
  simp only []
  rw [e2]
  rfl
end M

/-! ### small, ival -/
def Out {α : Type} (R : Option (α × List UInt8)) (val : α → Value) (p g : Nat) (f : Bool) (w : World) (e : Ending) (w' : World) : Prop :=
  match R with
  | some (a, r) => Took (val a) r p g f w e w'
  | none => Fell p g f w e w'
section
variable {α : Type} {R : Option (α × List UInt8)} {val : α → Value} {p g : Nat} {f : Bool} {w : World} {P : Program} {k : Nat} {as_ : Array Value} {a : α} {r : List UInt8}
theorem Out.took (h : Calls P k as_ w (Out R val p g f w)) (hd : R = some (a, r)) : Calls P k as_ w (Took (val a) r p g f w) := by subst hd; exact h
theorem Out.fell (h : Calls P k as_ w (Out R val p g f w)) (hd : R = none) : Calls P k as_ w (Fell p g f w) := by subst hd; exact h
end
theorem int_out (w : World) (p g : Nat) (f : Bool) (l : List UInt8) (hr : RdAt w p g l f) : Calls Try.prog 47 #[.pointer (some ⟨p, 0, none⟩)] w (Out (M.decInt l) (fun z => .int .i64 z) p g f w) := by
  cases h : M.dec 0 0 l with
  | none => have e : M.decInt l = none := by unfold M.decInt; rw [h]
            rw [e]; exact signed_bad hr h
  | some x => obtain ⟨n, r⟩ := x
              have e : M.decInt l = some (M.unzig n, r) := by unfold M.decInt; rw [h]
              rw [e]; exact signed_ok hr h
theorem flag_out (w : World) (p g : Nat) (f : Bool) (l : List UInt8) (hr : RdAt w p g l f) : Calls Try.prog 52 #[.pointer (some ⟨p, 0, none⟩)] w (Out (M.decBool l) (fun b => .bool b) p g f w) := by
  match l, hr with
  | [], hr => exact flag_none hr
  | b :: r, hr =>
    by_cases h : b.toNat ≤ 1
    · have e : M.decBool (b :: r) = some (b == 1, r) := if_pos h
      rw [e]; exact flag_ok hr h
    · have e : M.decBool (b :: r) = none := if_neg h
      rw [e]; exact flag_bad hr h
theorem str_out (w : World) (p g : Nat) (f : Bool) (l : List UInt8) (hr : RdAt w p g l f) : Calls Try.prog 50 #[.pointer (some ⟨p, 0, none⟩)] w (Out (M.decStr l) (fun s => .string s) p g f w) := by
  cases h : M.decText l with
  | none => have e : M.decStr l = none := by unfold M.decStr; rw [h]
            rw [e]; exact text_bad hr h
  | some x => obtain ⟨s, r⟩ := x
              have e : M.decStr l = some (strOf s, r) := by unfold M.decStr; rw [h]
              rw [e]; exact text_ok hr h
theorem count_out (w : World) (p g : Nat) (f : Bool) (l : List UInt8) (hr : RdAt w p g l f) : Calls Try.prog 65 #[.pointer (some ⟨p, 0, none⟩)] w (Out (M.decCount l) (fun n => .int .i64 (n : Int)) p g f w) := by
  cases h : M.dec 0 0 l with
  | none => have e : M.decCount l = none := by unfold M.decCount; rw [h]
            rw [e]; exact count_bad hr h
  | some x =>
    obtain ⟨n, r⟩ := x
    by_cases hn : n ≤ r.length
    · have e : M.decCount l = some (n, r) := by unfold M.decCount; rw [h]; exact if_pos hn
      rw [e]; exact count_ok hr h hn
    · have e : M.decCount l = none := by unfold M.decCount; rw [h]; exact if_neg hn
      rw [e]; exact count_long hr h hn

set_option maxHeartbeats 400000 in
theorem small_out (w : World) (p g : Nat) (f : Bool) (l : List UInt8) (hr : RdAt w p g l f) : Calls Try.prog 68 #[.pointer (some ⟨p, 0, none⟩)] w (Out (M.decSmall l) (fun z => .int .i64 z) p g f w) := by
  have HI := Lib.hid (int_out w p g f l hr)
  clear hr
  cases h : M.decInt l with
  | none =>
    have e : M.decSmall l = none := by unfold M.decSmall; rw [h]
    rw [e]
    have H := Lib.hid h
    clear h e
    go_enter Try.func68, Try.ntmps68
    go_wp2_with fail
    refine (Out.fell HI.out H.out).mono ?_
    rintro e w' ⟨rfl, h1⟩
    have H1 := Lib.hid h1
    clear h1
    go_wp2_with fail
    exact ⟨rfl, rfl, H1.out⟩
  | some x =>
    obtain ⟨z, r⟩ := x
    have H := Lib.hid h
    clear h
    rcases (show (-2147483648 ≤ z ∧ z ≤ 2147483647) ∨ z < -2147483648 ∨ (-2147483648 ≤ z ∧ 2147483647 < z) by omega) with hz | hz | hz
    · have e : M.decSmall l = some (z, r) := by unfold M.decSmall; rw [H.out]; exact if_pos hz
      rw [e]
      clear e
      have d1 : decide (-2147483648 ≤ z) = true := by simpa using hz.1
      have d2 : decide (z ≤ 2147483647) = true := by simpa using hz.2
      clear hz
      go_enter Try.func68, Try.ntmps68
      go_wp2_with fail
      refine (Out.took HI.out H.out).mono ?_
      rintro e w1 ⟨rfl, h1, h2⟩
      have H1 := Lib.hid h1
      have H2 := Lib.hid h2
      clear h1 h2
      go_wp2_with fail
      refine (need_yes w1).mono ?_
      rintro e w' ⟨rfl, rfl⟩
      go_wp2_with fail
      go_ret
      exact ⟨rfl, H1.out, H2.out⟩
    · have e : M.decSmall l = none := by unfold M.decSmall; rw [H.out]; exact if_neg (by omega)
      rw [e]
      clear e
      have d1 : decide (-2147483648 ≤ z) = false := by simp; omega
      clear hz
      go_enter Try.func68, Try.ntmps68
      go_wp2_with fail
      refine (Out.took HI.out H.out).mono ?_
      rintro e w1 ⟨rfl, h1, h2⟩
      have H1 := Lib.hid h1
      have H2 := Lib.hid h2
      clear h1 h2
      go_wp2_with fail
      refine (need_no w1).mono ?_
      rintro e w' ⟨rfl, rfl⟩
      go_wp2_with fail
      exact ⟨rfl, rfl, r, H1.out, H2.out⟩
    · have e : M.decSmall l = none := by unfold M.decSmall; rw [H.out]; exact if_neg (by omega)
      rw [e]
      clear e
      have d1 : decide (-2147483648 ≤ z) = true := by simpa using hz.1
      have d2 : decide (z ≤ 2147483647) = false := by simp; omega
      clear hz
      go_enter Try.func68, Try.ntmps68
      go_wp2_with fail
      refine (Out.took HI.out H.out).mono ?_
      rintro e w1 ⟨rfl, h1, h2⟩
      have H1 := Lib.hid h1
      have H2 := Lib.hid h2
      clear h1 h2
      go_wp2_with fail
      refine (need_no w1).mono ?_
      rintro e w' ⟨rfl, rfl⟩
      go_wp2_with fail
      exact ⟨rfl, rfl, r, H1.out, H2.out⟩
end Go.Proofs.Ytohmadfaaonaaaa
