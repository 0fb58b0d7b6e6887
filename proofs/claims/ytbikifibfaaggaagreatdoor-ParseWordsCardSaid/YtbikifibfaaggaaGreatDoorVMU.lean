import Derived.Test.YtbikifibfaaggaaGreatDoorVQVal
namespace Go.Proofs.YtbikifibfaaggaaGreatDoor
section
open Go.RowKit Go.Shelf
open Lx (Tok Tx)
open Px (Ex Cn Sm)
def kS {α : Type} : α × Nat → Nat → Nat := fun p _ => p.2
abbrev sstmt (f : Nat) : List Tok → Nat → Nat → Px.R (Sm × Nat) := fun ts o k => Px.stmt f o k ts
abbrev sblock (f : Nat) : List Tok → Nat → Nat → Px.R (List Sm × Nat) := fun ts o k => Px.block f o k ts
abbrev sstmts (f : Nat) (l : List Sm) : List Tok → Nat → Nat → Px.R (List Sm × Nat) := fun ts o k => (Px.stmts f o k l ts).bind fun p r => Px.want [125] r fun r => .ok p r
namespace St
theorem want_live {n : Nat} {s : Tx} {ts : List Tok} {o k : Nat} (h : Px.sees ts s = true) : (St.live ts o k).want n s = .live ts.tail o k := by unfold want; rw [if_pos (show (St.live ts o k).sees s = true from h)]; rfl
theorem want_no {n : Nat} {s : Tx} {ts : List Tok} {o k : Nat} (h : Px.sees ts s = false) : (St.live ts o k).want n s = .dead 51 (Px.place n ts) o := by unfold want; rw [if_neg (by rw [show (St.live ts o k).sees s = Px.sees ts s from rfl, h]; simp)]; rfl
theorem want_dead {n : Nat} {s : Tx} {z p o : Nat} : (St.dead z p o).want n s = .dead z p o := rfl
theorem name_live {n : Nat} {ts : List Tok} {o k : Nat} (h : Px.isName ts = true) : (St.live ts o k).name n = .live ts.tail o k := by unfold name; rw [if_pos (show (St.live ts o k).named = true from h)]; rfl
theorem name_no {n : Nat} {ts : List Tok} {o k : Nat} (h : Px.isName ts = false) : (St.live ts o k).name n = .dead 51 (Px.place n ts) o := by unfold name; rw [if_neg (by rw [show (St.live ts o k).named = Px.isName ts from rfl, h]; simp)]; rfl
theorem lift_dead {α : Type} {n : Nat} {kk : α → Nat → Nat} {g : List Tok → Nat → Nat → Px.R α} {z p o : Nat} : (St.dead z p o).lift n kk g = (none, .dead z p o) := rfl
theorem lift_ok {α : Type} {n : Nat} {kk : α → Nat → Nat} {g : List Tok → Nat → Nat → Px.R α} {ts r : List Tok} {o k : Nat} {a : α} (h : g ts o k = .ok a r) : (St.live ts o k).lift n kk g = (some a, .live r o (kk a k)) := by simp only [lift, h]
theorem lift_err {α : Type} {n : Nat} {kk : α → Nat → Nat} {g : List Tok → Nat → Nat → Px.R α} {ts r : List Tok} {o k z : Nat} (h : g ts o k = .err z r) : (St.live ts o k).lift n kk g = (none, .dead z (Px.place n r) o) := by simp only [lift, h]
end St
theorem want_ok {α : Type} {s : Tx} {ts : List Tok} {g : List Tok → Px.R α} (h : Px.sees ts s = true) : Px.want s ts g = g ts.tail := by unfold Px.want Px.passR; rw [if_pos h]; rfl
theorem want_bad {α : Type} {s : Tx} {ts : List Tok} {g : List Tok → Px.R α} (h : Px.sees ts s = false) : Px.want s ts g = .err 51 ts := by unfold Px.want Px.passR; rw [if_neg (by simp [h])]; rfl
theorem stmt_simple_eq {f o k : Nat} {ts : List Tok} (hs : Px.seesStmt ts = true) (hk : k < 200) (h1 : Px.sees ts [105, 102] = false) (h2 : Px.sees ts [119, 104, 105, 108, 101] = false) : Px.stmt (f + 1) o k ts = (Px.simple f o ts).bind fun s r => Px.want [59] r fun r => .ok (s.withAt k, k + 1) r := by
 rw [Px.stmt]
 simp only [hs, h1, h2]
 rw [if_pos trivial, if_neg (by omega)]
 rfl
theorem sees_other {ts : List Tok} {s t : Tx} (h : Px.sees ts s = true) (hne : s ≠ t) : Px.sees ts t = false := by
 unfold Px.sees at h ⊢
 rw [eq_of_beq h]
 simpa using hne
theorem isName_word {ts : List Tok} {s : Tx} (h : Px.sees ts s = true) (hs : s ≠ []) (hw : s ∈ Px.words) : Px.isName ts = false := by
 obtain ⟨t, r, rfl, rfl⟩ := sees_cons hs h
 have : Px.words.contains t.text = true := by simpa using hw
 simp [Px.isName, hw]
theorem txt_tail {ts : List Tok} : Px.txt ts 1 = Px.txt ts.tail 0 := by
 match ts with
 | [] => rfl
 | [_] => rfl
 | _ :: _ :: _ => rfl
section
variable {n f o k : Nat} {ts : List Tok}
theorem stmt_ret (h : Px.sees ts [114, 101, 116, 117, 114, 110] = true) (hk : k < 200) :
 (St.live ts o k).lift n kS (sstmt (f + 1)) = ((((St.live ts.tail o (k + 1)).lift n kI (esum f)).2.want n [59]).gate (((St.live ts.tail o (k + 1)).lift n kI (esum f)).1.map fun e => (.mk 9 [] [] (some e) none none [] [] [] k, k + 1)), ((St.live ts.tail o (k + 1)).lift n kI (esum f)).2.want n [59]) := by
 have hu := stmt_simple_eq (f := f) (o := o) (k := k) (ts := ts) (by simp [Px.seesStmt, h]) hk (sees_other h (by decide)) (sees_other h (by decide))
 have hsi : Px.simple f o ts = (Px.sum f o ts.tail).bind fun e r => .ok (.mk 9 [] [] (some e) none none [] [] [] 0) r := by unfold Px.simple; rw [if_pos h]
 rw [hsi] at hu
 rcases St.lift_cases n (esum f) ts.tail o (k + 1) with ⟨e, r, h1, h2⟩ | ⟨z, r, h1, h2⟩
 ·
  rw [show Px.sum f o ts.tail = _ from h1] at hu
  simp only [Px.bind_ok] at hu
  rw [h2]
  cases hc : Px.sees r [59] with
  | true => rw [St.want_live hc, St.lift_ok (g := sstmt (f + 1)) (hu.trans (want_ok hc))]; rfl
  | false => rw [St.want_no hc, St.lift_err (g := sstmt (f + 1)) (hu.trans (want_bad hc))]; rfl
 ·
  rw [show Px.sum f o ts.tail = _ from h1] at hu
  rw [h2, St.lift_err (g := sstmt (f + 1)) hu]; rfl
theorem stmt_assert (h : Px.sees ts [97, 115, 115, 101, 114, 116] = true) (hk : k < 200) :
 (St.live ts o k).lift n kS (sstmt (f + 1)) = ((((((St.live ts.tail o (k + 1)).want n [40]).lift n kI (ccond f)).2.want n [41]).want n [59]).gate ((((St.live ts.tail o (k + 1)).want n [40]).lift n kI (ccond f)).1.map fun e => (.mk 12 [] [] none none (some e) [] [] [] k, k + 1)), ((((St.live ts.tail o (k + 1)).want n [40]).lift n kI (ccond f)).2.want n [41]).want n [59]) := by
 have hu := stmt_simple_eq (f := f) (o := o) (k := k) (ts := ts) (by simp [Px.seesStmt, h]) hk (sees_other h (by decide)) (sees_other h (by decide))
 have hsi : Px.simple f o ts = (Px.test f o ts.tail).bind fun c r => .ok (.mk 12 [] [] none none (some c) [] [] [] 0) r := by unfold Px.simple; rw [if_neg (by rw [sees_other h (by decide)]; simp), if_pos h]
 rw [hsi] at hu
 unfold Px.test at hu
 cases ha : Px.sees ts.tail [40] with
 | false => rw [want_bad ha] at hu; rw [St.want_no ha, St.lift_err (g := sstmt (f + 1)) hu]; rfl
 | true =>
  rw [want_ok ha] at hu
  rw [St.want_live ha]
  rcases St.lift_cases n (ccond f) ts.tail.tail o (k + 1) with ⟨e, r, h1, h2⟩ | ⟨z, r, h1, h2⟩
  ·
   rw [show Px.cond f o ts.tail.tail = _ from h1] at hu
   simp only [Px.bind_ok] at hu
   rw [h2]
   cases hb : Px.sees r [41] with
   | false => rw [want_bad hb] at hu; rw [St.want_no hb, St.lift_err (g := sstmt (f + 1)) hu]; rfl
   | true =>
    rw [want_ok hb] at hu
    simp only [Px.bind_ok] at hu
    rw [St.want_live hb]
    cases hc : Px.sees r.tail [59] with
    | true => rw [St.want_live hc, St.lift_ok (g := sstmt (f + 1)) (hu.trans (want_ok hc))]; rfl
    | false => rw [St.want_no hc, St.lift_err (g := sstmt (f + 1)) (hu.trans (want_bad hc))]; rfl
  ·
   rw [show Px.cond f o ts.tail.tail = _ from h1] at hu
   rw [h2, St.lift_err (g := sstmt (f + 1)) hu]; rfl
theorem stmt_star (h : Px.sees ts [42] = true) (hk : k < 200) :
 (St.live ts o k).lift n kS (sstmt (f + 1)) = ((((((St.live ts.tail o (k + 1)).name n).want n [61]).lift n kI (esum f)).2.want n [59]).gate (((((St.live ts.tail o (k + 1)).name n).want n [61]).lift n kI (esum f)).1.map fun e => (.mk 5 (Px.txt ts.tail 0) [] (some e) none none [] [] [] k, k + 1)), ((((St.live ts.tail o (k + 1)).name n).want n [61]).lift n kI (esum f)).2.want n [59]) := by
 have hu := stmt_simple_eq (f := f) (o := o) (k := k) (ts := ts) (by simp [Px.seesStmt, h]) hk (sees_other h (by decide)) (sees_other h (by decide))
 have hsi : Px.simple f o ts = (Px.nameR ts.tail).bind fun x r => Px.want [61] r fun r => (Px.sum f o r).bind fun e r => .ok (.mk 5 x [] (some e) none none [] [] [] 0) r := by unfold Px.simple; rw [if_neg (by rw [sees_other h (by decide)]; simp), if_neg (by rw [sees_other h (by decide)]; simp), if_pos h]
 rw [hsi] at hu
 unfold Px.nameR at hu
 cases hn : Px.isName ts.tail with
 | false => rw [hn] at hu; rw [St.name_no hn, St.lift_err (g := sstmt (f + 1)) hu]; rfl
 | true =>
  rw [hn, if_pos rfl] at hu
  simp only [Px.bind_ok] at hu
  rw [St.name_live hn]
  cases ha : Px.sees ts.tail.tail [61] with
  | false => rw [want_bad ha] at hu; rw [St.want_no ha, St.lift_err (g := sstmt (f + 1)) hu]; rfl
  | true =>
   rw [want_ok ha] at hu
   rw [St.want_live ha]
   rcases St.lift_cases n (esum f) ts.tail.tail.tail o (k + 1) with ⟨e, r, h1, h2⟩ | ⟨z, r, h1, h2⟩
   ·
    rw [show Px.sum f o ts.tail.tail.tail = _ from h1] at hu
    simp only [Px.bind_ok] at hu
    rw [h2]
    cases hc : Px.sees r [59] with
    | true => rw [St.want_live hc, St.lift_ok (g := sstmt (f + 1)) (hu.trans (want_ok hc))]; rfl
    | false => rw [St.want_no hc, St.lift_err (g := sstmt (f + 1)) (hu.trans (want_bad hc))]; rfl
   ·
    rw [show Px.sum f o ts.tail.tail.tail = _ from h1] at hu
    rw [h2, St.lift_err (g := sstmt (f + 1)) hu]; rfl
theorem name_words (h : Px.isName ts = true) (s : Tx) (hs : s ∈ Px.words) (h0 : s ≠ []) : Px.sees ts s = false := by
 cases hc : Px.sees ts s with
 | false => rfl
 | true => rw [isName_word hc h0 hs] at h; cases h
theorem stmt_call (hg : Px.sees ts [42] = false) (h : Px.isName ts = true) (hk : k < 200) (h1 : Px.sees ts.tail [40] = true) :
 (St.live ts o k).lift n kS (sstmt (f + 1)) = ((((St.live ts.tail.tail o (k + 1)).lift n kI (aargs f)).2.want n [59]).gate (((St.live ts.tail.tail o (k + 1)).lift n kI (aargs f)).1.map fun l => (.mk 8 [] (Px.txt ts 0) none none none l [] [] k, k + 1)), ((St.live ts.tail.tail o (k + 1)).lift n kI (aargs f)).2.want n [59]) := by
 have hw := fun s hs h0 => name_words h s hs h0
 have hstar := hg
 have hu := stmt_simple_eq (f := f) (o := o) (k := k) (ts := ts) (by simp [Px.seesStmt, h]) hk (hw _ (by decide) (by simp)) (hw _ (by decide) (by simp))
 have ht : Px.txt ts 1 = [40] := by rw [txt_tail]; exact eq_of_beq h1
 have hsi : Px.simple f o ts = Px.call f o ts := by
  unfold Px.simple
  rw [if_neg (by rw [hw _ (by decide) (by simp)]; simp), if_neg (by rw [hw _ (by decide) (by simp)]; simp), if_neg (by rw [hstar]; simp), if_neg (by rw [ht]; decide), if_pos (by rw [ht]; rfl)]
 rw [hsi] at hu
 unfold Px.call Px.nameR Px.args at hu
 rw [if_pos h] at hu
 simp only [Px.bind_ok] at hu
 rw [want_ok h1] at hu
 rcases St.lift_cases n (aargs f) ts.tail.tail o (k + 1) with ⟨e, r, h1, h2⟩ | ⟨z, r, h1, h2⟩
 ·
  rw [show Px.argsL f o f [] ts.tail.tail = _ from h1] at hu
  simp only [Px.bind_ok] at hu
  rw [h2]
  cases hc : Px.sees r [59] with
  | true => rw [St.want_live hc, St.lift_ok (g := sstmt (f + 1)) (hu.trans (want_ok hc))]; rfl
  | false => rw [St.want_no hc, St.lift_err (g := sstmt (f + 1)) (hu.trans (want_bad hc))]; rfl
 ·
  rw [show Px.argsL f o f [] ts.tail.tail = _ from h1] at hu
  rw [h2, St.lift_err (g := sstmt (f + 1)) hu]; rfl
theorem stmt_put (hg : Px.sees ts [42] = false) (h : Px.isName ts = true) (hk : k < 200) (h1 : Px.sees ts.tail [91] = true) {P Q : Option Ex × St} (hP : P = (St.live ts.tail.tail o (k + 1)).lift n kI (esum f)) (hQ : Q = ((P.2.want n [93]).want n [61]).lift n kI (esum f)) :
 (St.live ts o k).lift n kS (sstmt (f + 1)) = ((Q.2.want n [59]).gate (P.1.bind fun e => Q.1.map fun x => (.mk 7 [] (Px.txt ts 0) (some e) (some x) none [] [] [] k, k + 1)), Q.2.want n [59]) := by
 have hw := fun s hs h0 => name_words h s hs h0
 have hstar := hg
 have hu := stmt_simple_eq (f := f) (o := o) (k := k) (ts := ts) (by simp [Px.seesStmt, h]) hk (hw _ (by decide) (by simp)) (hw _ (by decide) (by simp))
 have ht : Px.txt ts 1 = [91] := by rw [txt_tail]; exact eq_of_beq h1
 have hsi : Px.simple f o ts = Px.put f o ts := by
  unfold Px.simple
  rw [if_neg (by rw [hw _ (by decide) (by simp)]; simp), if_neg (by rw [hw _ (by decide) (by simp)]; simp), if_neg (by rw [hstar]; simp), if_pos (by rw [ht]; rfl)]
 rw [hsi] at hu
 unfold Px.put Px.nameR Px.index at hu
 rw [if_pos h] at hu
 simp only [Px.bind_ok] at hu
 rw [want_ok h1] at hu
 rcases St.lift_cases n (esum f) ts.tail.tail o (k + 1) with ⟨e, r, h1, h2⟩ | ⟨z, r, h1, h2⟩
 ·
  rw [show Px.sum f o ts.tail.tail = _ from h1] at hu
  simp only [Px.bind_ok] at hu
  rw [h2] at hP; subst hP
  cases ha : Px.sees r [93] with
  | false => rw [want_bad ha] at hu; simp only [St.want_no ha] at hQ; subst hQ; rw [St.lift_err (g := sstmt (f + 1)) hu]; rfl
  | true =>
   rw [want_ok ha] at hu
   simp only [Px.bind_ok] at hu
   simp only [St.want_live ha] at hQ
   cases hb : Px.sees r.tail [61] with
   | false => rw [want_bad hb] at hu; rw [St.want_no hb] at hQ; subst hQ; rw [St.lift_err (g := sstmt (f + 1)) hu]; rfl
   | true =>
    rw [want_ok hb] at hu
    rw [St.want_live hb] at hQ
    rcases St.lift_cases n (esum f) r.tail.tail o (k + 1) with ⟨e2, r2, h3, h4⟩ | ⟨z, r2, h3, h4⟩
    ·
     rw [show Px.sum f o r.tail.tail = _ from h3] at hu
     simp only [Px.bind_ok] at hu
     rw [h4] at hQ; subst hQ
     cases hc : Px.sees r2 [59] with
     | true => simp only [St.want_live hc]; rw [St.lift_ok (g := sstmt (f + 1)) (hu.trans (want_ok hc))]; rfl
     | false => simp only [St.want_no hc]; rw [St.lift_err (g := sstmt (f + 1)) (hu.trans (want_bad hc))]; rfl
    ·
     rw [show Px.sum f o r.tail.tail = _ from h3] at hu
     rw [h4] at hQ; subst hQ
     rw [St.lift_err (g := sstmt (f + 1)) hu]; rfl
 ·
  rw [show Px.sum f o ts.tail.tail = _ from h1] at hu
  rw [h2] at hP; subst hP; subst hQ
  rw [St.lift_err (g := sstmt (f + 1)) hu]; rfl
theorem stmt_set (hg : Px.sees ts [42] = false) (h : Px.isName ts = true) (hk : k < 200) (h1 : Px.sees ts.tail [40] = false) (h2 : Px.sees ts.tail [91] = false) {P : Option Sm × St} (hP : P = ((St.live ts.tail o (k + 1)).want n [61]).lift n kI (vval f)) :
 (St.live ts o k).lift n kS (sstmt (f + 1)) = ((P.2.want n [59]).gate (P.1.map fun s => ((s.withX (Px.txt ts 0)).withAt k, k + 1)), P.2.want n [59]) := by
 have hw := fun s hs h0 => name_words h s hs h0
 have hstar := hg
 have hu := stmt_simple_eq (f := f) (o := o) (k := k) (ts := ts) (by simp [Px.seesStmt, h]) hk (hw _ (by decide) (by simp)) (hw _ (by decide) (by simp))
 have ht : Px.txt ts 1 ≠ [91] := by rw [txt_tail]; intro hc; unfold Px.sees at h2; rw [hc] at h2; simp at h2
 have ht2 : Px.txt ts 1 ≠ [40] := by rw [txt_tail]; intro hc; unfold Px.sees at h1; rw [hc] at h1; simp at h1
 have hsi : Px.simple f o ts = Px.want [61] ts.tail fun r => (Px.value f o r).bind fun s r => .ok (s.withX (Px.txt ts 0)) r := by
  unfold Px.simple
  rw [if_neg (by rw [hw _ (by decide) (by simp)]; simp), if_neg (by rw [hw _ (by decide) (by simp)]; simp), if_neg (by rw [hstar]; simp), if_neg (by simpa using ht), if_neg (by simpa using ht2)]
  unfold Px.nameR
  rw [if_pos h]; rfl
 rw [hsi] at hu
 cases ha : Px.sees ts.tail [61] with
 | false => rw [want_bad ha] at hu; rw [St.want_no ha] at hP; subst hP; rw [St.lift_err (g := sstmt (f + 1)) hu]; rfl
 | true =>
  rw [want_ok ha] at hu
  rw [St.want_live ha] at hP
  rcases St.lift_cases n (vval f) ts.tail.tail o (k + 1) with ⟨e, r, h1, h2⟩ | ⟨z, r, h1, h2⟩
  ·
   rw [show Px.value f o ts.tail.tail = _ from h1] at hu
   simp only [Px.bind_ok] at hu
   rw [h2] at hP; subst hP
   cases hc : Px.sees r [59] with
   | true => simp only [St.want_live hc]; rw [St.lift_ok (g := sstmt (f + 1)) (hu.trans (want_ok hc))]; rfl
   | false => simp only [St.want_no hc]; rw [St.lift_err (g := sstmt (f + 1)) (hu.trans (want_bad hc))]; rfl
  ·
   rw [show Px.value f o ts.tail.tail = _ from h1] at hu
   rw [h2] at hP; subst hP
   rw [St.lift_err (g := sstmt (f + 1)) hu]; rfl
theorem stmt_none (h : Px.seesStmt ts = false) : (St.live ts o k).lift n kS (sstmt (f + 1)) = (none, .dead 51 (Px.place n ts) o) := by
 have hu : Px.stmt (f + 1) o k ts = .err 51 ts := by rw [Px.stmt]; simp only [h]; rfl
 rw [St.lift_err (g := sstmt (f + 1)) hu]
theorem stmt_most (h : Px.seesStmt ts = true) (hk : 200 ≤ k) : (St.live ts o k).lift n kS (sstmt (f + 1)) = (none, .dead 53 (Px.place n ts) o) := by
 have hu : Px.stmt (f + 1) o k ts = .err 53 ts := by rw [Px.stmt]; simp only [h]; rw [if_pos trivial, if_pos hk]
 rw [St.lift_err (g := sstmt (f + 1)) hu]
theorem lift_kcases {α : Type} (n : Nat) (kk : α → Nat → Nat) (g : List Tok → Nat → Nat → Px.R α) (ts : List Tok) (o k : Nat) :
 (∃ a r, g ts o k = .ok a r ∧ (St.live ts o k).lift n kk g = (some a, .live r o (kk a k))) ∨ (∃ z r, g ts o k = .err z r ∧ (St.live ts o k).lift n kk g = (none, .dead z (Px.place n r) o)) := by
 cases h : g ts o k with
 | ok a r => exact .inl ⟨a, r, rfl, St.lift_ok h⟩
 | err z r => exact .inr ⟨z, r, rfl, St.lift_err h⟩
theorem stmt_loop (h : Px.sees ts [119, 104, 105, 108, 101] = true) (hk : k < 200) {P : Option Cn × St} {Q : Option (List Sm × Nat) × St} (hP : P = ((St.live ts.tail o (k + 1)).want n [40]).lift n kI (ccond f)) (hQ : Q = (P.2.want n [41]).lift n kS (sblock f)) :
 (St.live ts o k).lift n kS (sstmt (f + 1)) = (P.1.bind fun c => Q.1.map fun th => (.mk 11 [] [] none none (some c) [] th.1 [] k, th.2), Q.2) := by
 have hu : Px.stmt (f + 1) o k ts = (Px.loop (fun k r => Px.block f o k r) f o (k + 1) ts).bind fun p r => .ok (p.1.withAt k, p.2) r := by
  rw [Px.stmt]
  simp only [show Px.seesStmt ts = true by simp [Px.seesStmt, h], show Px.sees ts [105, 102] = false from sees_other h (by decide), h]
  rw [if_pos trivial, if_neg (by omega)]; rfl
 unfold Px.loop Px.test at hu
 rw [want_ok h] at hu
 cases ha : Px.sees ts.tail [40] with
 | false => rw [want_bad ha] at hu; rw [St.want_no ha] at hP; subst hP; subst hQ; rw [St.lift_err (g := sstmt (f + 1)) hu]; rfl
 | true =>
  rw [want_ok ha] at hu
  rw [St.want_live ha] at hP
  rcases St.lift_cases n (ccond f) ts.tail.tail o (k + 1) with ⟨c, r, h1, h2⟩ | ⟨z, r, h1, h2⟩
  ·
   rw [show Px.cond f o ts.tail.tail = _ from h1] at hu
   simp only [Px.bind_ok] at hu
   rw [h2] at hP; subst hP
   cases hb : Px.sees r [41] with
   | false => rw [want_bad hb] at hu; simp only [St.want_no hb] at hQ; subst hQ; rw [St.lift_err (g := sstmt (f + 1)) hu]; rfl
   | true =>
    rw [want_ok hb] at hu
    simp only [Px.bind_ok] at hu
    simp only [St.want_live hb] at hQ
    rcases lift_kcases n kS (sblock f) r.tail o (k + 1) with ⟨p, r2, h3, h4⟩ | ⟨z, r2, h3, h4⟩
    ·
     rw [show Px.block f o (k + 1) r.tail = _ from h3] at hu
     rw [h4] at hQ; subst hQ
     rw [St.lift_ok (g := sstmt (f + 1)) hu]; rfl
    ·
     rw [show Px.block f o (k + 1) r.tail = _ from h3] at hu
     rw [h4] at hQ; subst hQ
     rw [St.lift_err (g := sstmt (f + 1)) hu]; rfl
  ·
   rw [show Px.cond f o ts.tail.tail = _ from h1] at hu
   rw [h2] at hP; subst hP; subst hQ
   rw [St.lift_err (g := sstmt (f + 1)) hu]; rfl
theorem stmt_branch (h : Px.sees ts [105, 102] = true) (hk : k < 200) {P : Option Cn × St} {Q T : Option (List Sm × Nat) × St} (hP : P = ((St.live ts.tail o (k + 1)).want n [40]).lift n kI (ccond f)) (hQ : Q = (P.2.want n [41]).lift n kS (sblock f)) (hT : T = (Q.2.take [101, 108, 115, 101]).lift n kS (sblock f)) :
 (St.live ts o k).lift n kS (sstmt (f + 1)) = if Q.2.sees [101, 108, 115, 101] then (P.1.bind fun c => Q.1.bind fun th => T.1.map fun el => (.mk 10 [] [] none none (some c) [] th.1 el.1 k, el.2), T.2) else (P.1.bind fun c => Q.1.map fun th => (.mk 10 [] [] none none (some c) [] th.1 [] k, th.2), Q.2) := by
 have hu : Px.stmt (f + 1) o k ts = (Px.branch (fun k r => Px.block f o k r) f o (k + 1) ts).bind fun p r => .ok (p.1.withAt k, p.2) r := by
  rw [Px.stmt]
  simp only [show Px.seesStmt ts = true by simp [Px.seesStmt, h], h]
  rw [if_pos trivial, if_neg (by omega)]; rfl
 unfold Px.branch Px.test at hu
 rw [want_ok h] at hu
 cases ha : Px.sees ts.tail [40] with
 | false => rw [want_bad ha] at hu; rw [St.want_no ha] at hP; subst hP; subst hQ; rw [St.lift_err (g := sstmt (f + 1)) hu]; rfl
 | true =>
  rw [want_ok ha] at hu
  rw [St.want_live ha] at hP
  rcases St.lift_cases n (ccond f) ts.tail.tail o (k + 1) with ⟨c, r, h1, h2⟩ | ⟨z, r, h1, h2⟩
  ·
   rw [show Px.cond f o ts.tail.tail = _ from h1] at hu
   simp only [Px.bind_ok] at hu
   rw [h2] at hP; subst hP
   cases hb : Px.sees r [41] with
   | false => rw [want_bad hb] at hu; simp only [St.want_no hb] at hQ; subst hQ; rw [St.lift_err (g := sstmt (f + 1)) hu]; rfl
   | true =>
    rw [want_ok hb] at hu
    simp only [Px.bind_ok] at hu
    simp only [St.want_live hb] at hQ
    rcases lift_kcases n kS (sblock f) r.tail o (k + 1) with ⟨p, r2, h3, h4⟩ | ⟨z, r2, h3, h4⟩
    ·
     rw [show Px.block f o (k + 1) r.tail = _ from h3] at hu
     simp only [Px.bind_ok] at hu
     rw [h4] at hQ; subst hQ
     cases he : Px.sees r2 [101, 108, 115, 101] with
     | true =>
      rw [if_pos he] at hu
      rw [if_pos (show ((some p, St.live r2 o (kS p (k + 1))) : Option (List Sm × Nat) × St).2.sees [101, 108, 115, 101] = true from he)]
      have htk : (St.live r2 o p.2).take [101, 108, 115, 101] = .live r2.tail o p.2 := by unfold St.take; rw [if_pos (show (St.live r2 o p.2).sees _ = true from he)]; rfl
      simp only [kS] at hT
      rw [htk] at hT
      rcases lift_kcases n kS (sblock f) r2.tail o p.2 with ⟨q, r3, h5, h6⟩ | ⟨z, r3, h5, h6⟩
      ·
       rw [show Px.block f o p.2 r2.tail = _ from h5] at hu
       rw [h6] at hT; subst hT
       rw [St.lift_ok (g := sstmt (f + 1)) hu]; rfl
      ·
       rw [show Px.block f o p.2 r2.tail = _ from h5] at hu
       rw [h6] at hT; subst hT
       rw [St.lift_err (g := sstmt (f + 1)) hu]; rfl
     | false =>
      rw [if_neg (by simp [he])] at hu
      rw [if_neg (show ¬ ((some p, St.live r2 o (kS p (k + 1))) : Option (List Sm × Nat) × St).2.sees [101, 108, 115, 101] = true from by
       show ¬ Px.sees r2 _ = true
       rw [he]; simp)]
      rw [St.lift_ok (g := sstmt (f + 1)) hu]; rfl
    ·
     rw [show Px.block f o (k + 1) r.tail = _ from h3] at hu
     rw [h4] at hQ; subst hQ
     rw [St.lift_err (g := sstmt (f + 1)) hu]; rfl
  ·
   rw [show Px.cond f o ts.tail.tail = _ from h1] at hu
   rw [h2] at hP; subst hP; subst hQ
   rw [St.lift_err (g := sstmt (f + 1)) hu]; rfl
end
end
section
open Go.RowKit Go.Shelf
open Lx (Tok Tx)
open Px (Ex Cn Sm)
theorem start_q {w : World} {b n X0 X : Nat} {ts : List Tok} {o k : Nat} (h : SA w b n (.live ts o k)) (hX0 : X0 = w.heap.size) (hX : X = X0 + 1) :
 (w.alloc (.cells #[.int .i64 0, .string ⟨#[]⟩, .string ⟨#[]⟩, .pointer none, .pointer none, .pointer none, .slice none 0 0, .slice none 0 0, .slice none 0 0, .int .i64 0] 60)).cell? ⟨b, 6, none⟩ = some (.int .i64 (k : Int)) ∧ Hid (SA ((w.alloc (.cells #[.int .i64 0, .string ⟨#[]⟩, .string ⟨#[]⟩, .pointer none, .pointer none, .pointer none, .slice none 0 0, .slice none 0 0, .slice none 0 0, .int .i64 0] 60)).alloc (.cells (sRow 0 ⟨#[]⟩ ⟨#[]⟩ none none none (.slice none 0 0) (.slice none 0 0) (.slice none 0 0) (k : Int)).toArray 60)) b n (.live ts o k)) ∧ Hid (((w.alloc (.cells #[.int .i64 0, .string ⟨#[]⟩, .string ⟨#[]⟩, .pointer none, .pointer none, .pointer none, .slice none 0 0, .slice none 0 0, .slice none 0 0, .int .i64 0] 60)).alloc (.cells (sRow 0 ⟨#[]⟩ ⟨#[]⟩ none none none (.slice none 0 0) (.slice none 0 0) (.slice none 0 0) (k : Int)).toArray 60)).heap[X0]? = some (.cells #[.int .i64 0, .string ⟨#[]⟩, .string ⟨#[]⟩, .pointer none, .pointer none, .pointer none, .slice none 0 0, .slice none 0 0, .slice none 0 0, .int .i64 0] 60 (0, 0))) ∧ Hid (((w.alloc (.cells #[.int .i64 0, .string ⟨#[]⟩, .string ⟨#[]⟩, .pointer none, .pointer none, .pointer none, .slice none 0 0, .slice none 0 0, .slice none 0 0, .int .i64 0] 60)).alloc (.cells (sRow 0 ⟨#[]⟩ ⟨#[]⟩ none none none (.slice none 0 0) (.slice none 0 0) (.slice none 0 0) (k : Int)).toArray 60)).heap[X]? = some (.cells (sRow 0 ⟨#[]⟩ ⟨#[]⟩ none none none (.slice none 0 0) (.slice none 0 0) (.slice none 0 0) (k : Int)).toArray 60 (0, 0))) := by
 have hs0 := h.keep ((Keeps.refl [] w).alloc (.cells #[.int .i64 0, .string ⟨#[]⟩, .string ⟨#[]⟩, .pointer none, .pointer none, .pointer none, .slice none 0 0, .slice none 0 0, .slice none 0 0, .int .i64 0] 60))
 obtain ⟨cs9, hrow9, -, -, -, -, c6, hfz9⟩ := hs0.row
 refine ⟨c6, Lib.hid (hs0.keep ((Keeps.refl [] _).alloc _)), Lib.hid ?_, Lib.hid ?_⟩
 · rw [hX0]; exact block_keep (heap_alloc_new w _) ((Keeps.refl [] _).alloc _) (by simp)
 · rw [hX, hX0, show w.heap.size + 1 = (w.alloc (.cells #[.int .i64 0, .string ⟨#[]⟩, .string ⟨#[]⟩, .pointer none, .pointer none, .pointer none, .slice none 0 0, .slice none 0 0, .slice none 0 0, .int .i64 0] 60)).heap.size by simp]; exact heap_alloc_new _ _
theorem stage_q {w w' : World} {b n X0 X k : Nat} {ts : List Tok} {o : Nat} {Q : World → Prop} (h0 : Hid (w'.heap[X0]? = some (.cells #[.int .i64 0, .string ⟨#[]⟩, .string ⟨#[]⟩, .pointer none, .pointer none, .pointer none, .slice none 0 0, .slice none 0 0, .slice none 0 0, .int .i64 0] 60 (0, 0)))) (h1 : Hid (w'.heap[X]? = some (.cells (sRow 0 ⟨#[]⟩ ⟨#[]⟩ none none none (.slice none 0 0) (.slice none 0 0) (.slice none 0 0) (k : Int)).toArray 60 (0, 0)))) (hs : Hid (SA w' b n (.live ts o k))) (hk : Keeps [] w w') (h : ∀ W, Hid (Keeps [b] w W) → Hid (W.heap[X0]? = some (.cells (sRow 0 ⟨#[]⟩ ⟨#[]⟩ none none none (.slice none 0 0) (.slice none 0 0) (.slice none 0 0) 0).toArray 60 (0, 0))) → Hid (W.heap[X]? = some (.cells (sRow 0 ⟨#[]⟩ ⟨#[]⟩ none none none (.slice none 0 0) (.slice none 0 0) (.slice none 0 0) (k : Int)).toArray 60 (0, 0))) → Hid (SA W b n (.live ts o k)) → Q W) : Q w' := h w' (Lib.hid (hk.mono (by simp))) h0 h1 hs
end
end Go.Proofs.YtbikifibfaaggaaGreatDoor
