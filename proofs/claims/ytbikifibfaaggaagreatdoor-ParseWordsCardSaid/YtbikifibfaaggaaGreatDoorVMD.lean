import Derived.Test.YtbikifibfaaggaaGreatDoorVMA
namespace Go.Proofs.YtbikifibfaaggaaGreatDoor
section
namespace Px
open Lx (Tok Tx)
def txt (ts : List Tok) (n : Nat) : Tx := match ts[n]? with | some t => t.text | none => []
def sees (ts : List Tok) (s : Tx) : Bool := txt ts 0 == s
def words : List Tx := [[102, 110], [118, 97, 114], [112, 116, 114], [105, 102], [101, 108, 115, 101], [119, 104, 105, 108, 101], [114, 101, 116, 117, 114, 110], [97, 115, 115, 101, 114, 116], [110, 117, 108, 108], [99, 101, 108, 108], [97, 114, 114, 97, 121]]
def isName : List Tok → Bool | t :: _ => t.kind == 0 && !words.contains t.text | [] => false
def isNum : List Tok → Bool | t :: _ => t.kind == 1 | [] => false
def place (n : Nat) : List Tok → Nat | t :: _ => t.at_ | [] => n
structure Wf (t : Tok) : Prop where
 text : t.text ≠ []
 kind : t.kind ≤ 2
 len : t.text.length ≤ 4096
 num : t.kind = 1 → (∀ b ∈ t.text, Lx.digit b = true) ∧ Lx.val t.text ≤ 9223372036854775807
 oth : t.kind ≠ 1 → ∀ b ∈ t.text.head?, Lx.digit b = false
 place : t.at_ ≤ 4096
structure Good (ts : List Tok) : Prop where
 wf : ∀ t ∈ ts, Wf t
 len : ts.length ≤ 5000
theorem Good.tail {t : Tok} {r : List Tok} (h : Good (t :: r)) : Good r := ⟨fun x hx => h.wf x (List.mem_cons_of_mem _ hx), by have := h.len; simp at this; omega⟩
inductive R (α : Type) where
 | ok (a : α) (ts : List Tok)
 | err (e : Nat) (ts : List Tok)
def R.bind {α β : Type} (r : R α) (g : α → List Tok → R β) : R β := match r with | .ok a ts => g a ts | .err e ts => .err e ts
inductive Ex where
 | num (n : Nat)
 | var (s : Tx)
 | neg (a : Ex)
 | bin (k : Nat) (a b : Ex)
inductive Cn where
 | cmp (k : Nat) (a b : Ex)
 | two (k : Nat) (p q : Cn)
 | not (p : Cn)
 | null (s : Tx)
def mulOp (ts : List Tok) : Option Nat := if sees ts [42] then some 4 else if sees ts [47] then some 5 else if sees ts [37] then some 6 else none
def addOp (ts : List Tok) : Option Nat := if sees ts [43] then some 2 else if sees ts [45] then some 3 else none
mutual
def un : Nat → Nat → List Tok → R Ex
 | 0, _, ts => .err 99 ts
 | f + 1, o, ts =>
  if sees ts [45] then
   if 40 ≤ o then .err 52 ts else
   match un f (o + 1) ts.tail with
   | .ok a r => .ok (.neg a) r
   | .err e r => .err e r
  else if sees ts [40] then
   if 40 ≤ o then .err 52 ts else
   match sum f (o + 1) ts.tail with
   | .ok a r => if sees r [41] then .ok a r.tail else .err 51 r
   | .err e r => .err e r
  else if isNum ts then .ok (.num (Lx.val (txt ts 0))) ts.tail
  else if isName ts then .ok (.var (txt ts 0)) ts.tail
  else .err 51 ts
def prodL : Nat → Nat → Ex → List Tok → R Ex
 | 0, _, _, ts => .err 99 ts
 | f + 1, o, a, ts =>
  match mulOp ts with
  | none => .ok a ts
  | some k =>
   match un f o ts.tail with
   | .ok b r => prodL f o (.bin k a b) r
   | .err e r => .err e r
def prod : Nat → Nat → List Tok → R Ex
 | 0, _, ts => .err 99 ts
 | f + 1, o, ts =>
  match un f o ts with
  | .ok a r => prodL f o a r
  | .err e r => .err e r
def sumL : Nat → Nat → Ex → List Tok → R Ex
 | 0, _, _, ts => .err 99 ts
 | f + 1, o, a, ts =>
  match addOp ts with
  | none => .ok a ts
  | some k =>
   match prod f o ts.tail with
   | .ok b r => sumL f o (.bin k a b) r
   | .err e r => .err e r
def sum : Nat → Nat → List Tok → R Ex
 | 0, _, ts => .err 99 ts
 | f + 1, o, ts =>
  match prod f o ts with
  | .ok a r => sumL f o a r
  | .err e r => .err e r
end
theorem ex_len : ∀ (f : Nat), (∀ o ts a r, un f o ts = .ok a r → r.length < ts.length) ∧ (∀ o x ts a r, prodL f o x ts = .ok a r → r.length ≤ ts.length) ∧ (∀ o ts a r, prod f o ts = .ok a r → r.length < ts.length) ∧ (∀ o x ts a r, sumL f o x ts = .ok a r → r.length ≤ ts.length) ∧ (∀ o ts a r, sum f o ts = .ok a r → r.length < ts.length)
 | 0 => ⟨fun o ts a r h => by simp [un] at h, fun o x ts a r h => by simp [prodL] at h, fun o ts a r h => by simp [prod] at h, fun o x ts a r h => by simp [sumL] at h, fun o ts a r h => by simp [sum] at h⟩
 | f + 1 => by
  obtain ⟨h1, h2, h3, h4, h5⟩ := ex_len f
  refine ⟨fun o ts a r h => ?_, fun o x ts a r h => ?_, fun o ts a r h => ?_, fun o x ts a r h => ?_, fun o ts a r h => ?_⟩
  ·
   unfold un at h
   have hnil : ∀ s, s ≠ [] → sees ts s = true → 0 < ts.length := fun s hs h => by
    match ts, h with
    | [], h => unfold sees txt at h; simp at h; exact absurd h hs
    | t :: r, h => simp
   split at h
   ·
    rename_i hs
    have := hnil _ (by simp) hs
    split at h
    · cases h
    ·
     split at h
     ·
      rename_i a' r' hr
      have := h1 _ _ _ _ hr
      injection h with _ h
      subst h
      simp at this; omega
     · cases h
   ·
    split at h
    ·
     rename_i hs
     have := hnil _ (by simp) hs
     split at h
     · cases h
     ·
      split at h
      ·
       rename_i a' r' hr
       have := h5 _ _ _ _ hr
       split at h
       ·
        injection h with _ h
        subst h
        simp at this ⊢; omega
       · cases h
      · cases h
    ·
     split at h
     ·
      rename_i hs
      injection h with _ h
      subst h
      match ts, hs with
      | t :: r, _ => simp
     ·
      split at h
      ·
       rename_i hs
       injection h with _ h
       subst h
       match ts, hs with
       | t :: r, _ => simp
      · cases h
  ·
   unfold prodL at h
   split at h
   · injection h with _ h; subst h; exact Nat.le_refl _
   ·
    split at h
    ·
     rename_i hr
     have q1 := h1 _ _ _ _ hr
     have q2 := h2 _ _ _ _ _ h
     simp at q1; omega
    · cases h
  ·
   unfold prod at h
   split at h
   ·
    rename_i hr
    have q1 := h1 _ _ _ _ hr
    have q2 := h2 _ _ _ _ _ h
    omega
   · cases h
  ·
   unfold sumL at h
   split at h
   · injection h with _ h; subst h; exact Nat.le_refl _
   ·
    split at h
    ·
     rename_i hr
     have q1 := h3 _ _ _ _ hr
     have q2 := h4 _ _ _ _ _ h
     simp at q1; omega
    · cases h
  ·
   unfold sum at h
   split at h
   ·
    rename_i hr
    have q1 := h3 _ _ _ _ hr
    have q2 := h4 _ _ _ _ _ h
    omega
   · cases h
end Px
end
section
namespace Px
open Lx (Tok Tx)
def isNull (ts : List Tok) : Bool := isName ts && ((txt ts 1 == [61, 61] || txt ts 1 == [33, 61]) && txt ts 2 == [110, 117, 108, 108])
def nullCn (ts : List Tok) : Cn := if txt ts 1 == [33, 61] then .not (.null (txt ts 0)) else .null (txt ts 0)
def cmpOp (ts : List Tok) : Option Nat := if sees ts [33, 61] then some 1 else if sees ts [60] then some 2 else if sees ts [60, 61] then some 3 else if sees ts [62] then some 4 else if sees ts [62, 61] then some 5 else if sees ts [61, 61] then some 0 else none
def cmp (f o : Nat) (ts : List Tok) : R Cn :=
 match sum f o ts with
 | .ok a r =>
  (match cmpOp r with
  | some k =>
   (match sum f o r.tail with
   | .ok c r2 => .ok (.cmp k a c) r2
   | .err e r2 => .err e r2)
  | none => .err 51 r)
 | .err e r => .err e r
mutual
def not : Nat → Nat → List Tok → R Cn
 | 0, _, ts => .err 99 ts
 | f + 1, o, ts =>
  if sees ts [33] then
   if 40 ≤ o then .err 52 ts else
   match not f (o + 1) ts.tail with
   | .ok a r => .ok (.not a) r
   | .err e r => .err e r
  else if sees ts [40] then
   if 40 ≤ o then .err 52 ts else
   match cond f (o + 1) ts.tail with
   | .ok a r => if sees r [41] then .ok a r.tail else .err 51 r
   | .err e r => .err e r
  else if isNull ts then .ok (nullCn ts) (ts.drop 3)
  else cmp f o ts
def andL : Nat → Nat → Cn → List Tok → R Cn
 | 0, _, _, ts => .err 99 ts
 | f + 1, o, a, ts =>
  if sees ts [38, 38] then
   match not f o ts.tail with
   | .ok b r => andL f o (.two 6 a b) r
   | .err e r => .err e r
  else .ok a ts
def and : Nat → Nat → List Tok → R Cn
 | 0, _, ts => .err 99 ts
 | f + 1, o, ts =>
  match not f o ts with
  | .ok a r => andL f o a r
  | .err e r => .err e r
def condL : Nat → Nat → Cn → List Tok → R Cn
 | 0, _, _, ts => .err 99 ts
 | f + 1, o, a, ts =>
  if sees ts [124, 124] then
   match and f o ts.tail with
   | .ok b r => condL f o (.two 7 a b) r
   | .err e r => .err e r
  else .ok a ts
def cond : Nat → Nat → List Tok → R Cn
 | 0, _, ts => .err 99 ts
 | f + 1, o, ts =>
  match and f o ts with
  | .ok a r => condL f o a r
  | .err e r => .err e r
end
theorem sees_len {ts : List Tok} {s : Tx} (hs : s ≠ []) (h : sees ts s = true) : 0 < ts.length := by
 match ts, h with
 | [], h => unfold sees txt at h; simp at h; exact absurd h hs
 | t :: r, h => simp
theorem isNull_form {ts : List Tok} (h : isNull ts = true) : ∃ t0 t1 t2 r, ts = t0 :: t1 :: t2 :: r ∧ isName (t0 :: t1 :: t2 :: r) = true ∧ (t1.text = [61, 61] ∨ t1.text = [33, 61]) ∧ t2.text = [110, 117, 108, 108] := by
 match ts, h with
 | [], h => simp [isNull, isName] at h
 | [t], h => simp [isNull, txt] at h
 | [t, u], h => simp [isNull, txt] at h
 | t :: u :: v :: r, h =>
  unfold isNull at h
  simp only [Bool.and_eq_true, Bool.or_eq_true, beq_iff_eq] at h
  exact ⟨t, u, v, r, rfl, h.1, h.2.1, h.2.2⟩
theorem cmp_len {f o : Nat} {ts r : List Tok} {a : Cn} (h : cmp f o ts = .ok a r) : r.length < ts.length := by
 unfold cmp at h
 split at h
 ·
  rename_i h1
  have q1 := (ex_len f).2.2.2.2 _ _ _ _ h1
  split at h
  ·
   split at h
   ·
    rename_i h2
    have q2 := (ex_len f).2.2.2.2 _ _ _ _ h2
    injection h with _ h; subst h
    simp at q2; omega
   · cases h
  · cases h
 · cases h
theorem cn_len : ∀ (f : Nat), (∀ o ts a r, not f o ts = .ok a r → r.length < ts.length) ∧ (∀ o x ts a r, andL f o x ts = .ok a r → r.length ≤ ts.length) ∧ (∀ o ts a r, and f o ts = .ok a r → r.length < ts.length) ∧ (∀ o x ts a r, condL f o x ts = .ok a r → r.length ≤ ts.length) ∧ (∀ o ts a r, cond f o ts = .ok a r → r.length < ts.length)
 | 0 => ⟨fun o ts a r h => by simp [not] at h, fun o x ts a r h => by simp [andL] at h, fun o ts a r h => by simp [and] at h, fun o x ts a r h => by simp [condL] at h, fun o ts a r h => by simp [cond] at h⟩
 | f + 1 => by
  obtain ⟨h1, h2, h3, h4, h5⟩ := cn_len f
  refine ⟨fun o ts a r h => ?_, fun o x ts a r h => ?_, fun o ts a r h => ?_, fun o x ts a r h => ?_, fun o ts a r h => ?_⟩
  ·
   unfold not at h
   split at h
   ·
    rename_i hs
    have := sees_len (by simp) hs
    split at h
    · cases h
    ·
     split at h
     ·
      rename_i a' r' hr
      have := h1 _ _ _ _ hr
      injection h with _ h
      subst h
      simp at this; omega
     · cases h
   ·
    split at h
    ·
     rename_i hs
     have := sees_len (by simp) hs
     split at h
     · cases h
     ·
      split at h
      ·
       rename_i a' r' hr
       have := h5 _ _ _ _ hr
       split at h
       ·
        injection h with _ h
        subst h
        simp at this ⊢; omega
       · cases h
      · cases h
    ·
     split at h
     ·
      rename_i hs
      obtain ⟨t0, t1, t2, r', rfl, _⟩ := isNull_form hs
      injection h with _ h
      subst h
      simp; omega
     · exact cmp_len h
  ·
   unfold andL at h
   split at h
   ·
    split at h
    ·
     rename_i hr
     have q1 := h1 _ _ _ _ hr
     have q2 := h2 _ _ _ _ _ h
     simp at q1; omega
    · cases h
   · injection h with _ h; subst h; exact Nat.le_refl _
  ·
   unfold and at h
   split at h
   ·
    rename_i hr
    have q1 := h1 _ _ _ _ hr
    have q2 := h2 _ _ _ _ _ h
    omega
   · cases h
  ·
   unfold condL at h
   split at h
   ·
    split at h
    ·
     rename_i hr
     have q1 := h3 _ _ _ _ hr
     have q2 := h4 _ _ _ _ _ h
     simp at q1; omega
    · cases h
   · injection h with _ h; subst h; exact Nat.le_refl _
  ·
   unfold cond at h
   split at h
   ·
    rename_i hr
    have q1 := h3 _ _ _ _ hr
    have q2 := h4 _ _ _ _ _ h
    omega
   · cases h
end Px
end
section
namespace Px
open Lx (Tok Tx)
inductive Sm where
 | mk (kd : Nat) (x y : Tx) (e f : Option Ex) (c : Option Cn) (args : List Ex) (th el : List Sm) (a : Nat)
theorem bind_ok {α β : Type} (a : α) (ts : List Tok) (g : α → List Tok → R β) : (R.ok a ts).bind g = g a ts := rfl
def passR (s : Tx) (ts : List Tok) : R Unit := if sees ts s then .ok () ts.tail else .err 51 ts
abbrev want {α : Type} (s : Tx) (ts : List Tok) (g : List Tok → R α) : R α := (passR s ts).bind fun _ r => g r
def nameR (ts : List Tok) : R Tx := if isName ts then .ok (txt ts 0) ts.tail else .err 51 ts
def index (f o : Nat) (ts : List Tok) : R Ex := want [91] ts fun r => (sum f o r).bind fun e r => want [93] r fun r => .ok e r
def test (f o : Nat) (ts : List Tok) : R Cn := want [40] ts fun r => (cond f o r).bind fun c r => want [41] r fun r => .ok c r
def argsL (f o : Nat) : Nat → List Ex → List Tok → R (List Ex)
 | 0, _, ts => .err 99 ts
 | g + 1, l, ts =>
  if sees ts [41] then .ok l ts.tail
  else if l.length = 0 then (sum f o ts).bind fun e r => argsL f o g (l ++ [e]) r
  else want [44] ts fun r => (sum f o r).bind fun e r => argsL f o g (l ++ [e]) r
def args (f o : Nat) (ts : List Tok) : R (List Ex) := want [40] ts fun r => argsL f o f [] r
def call (f o : Nat) (ts : List Tok) : R Sm := (nameR ts).bind fun y r => (args f o r).bind fun l r => .ok (.mk 8 [] y none none none l [] [] 0) r
def put (f o : Nat) (ts : List Tok) : R Sm := (nameR ts).bind fun y r => (index f o r).bind fun e r => want [61] r fun r => (sum f o r).bind fun x r => .ok (.mk 7 [] y (some e) (some x) none [] [] [] 0) r
def value (f o : Nat) (ts : List Tok) : R Sm :=
 if sees ts [110, 117, 108, 108] then .ok (.mk 3 [] [] none none none [] [] [] 0) ts.tail
 else if sees ts [38] then (nameR ts.tail).bind fun y r => .ok (.mk 1 [] y none none none [] [] [] 0) r
 else if sees ts [42] then (nameR ts.tail).bind fun y r => .ok (.mk 4 [] y none none none [] [] [] 0) r
 else if isName ts && txt ts 1 == [91] then (nameR ts).bind fun y r => (index f o r).bind fun e r => .ok (.mk 6 [] y (some e) none none [] [] [] 0) r
 else if isName ts && txt ts 1 == [40] then call f o ts
 else (sum f o ts).bind fun e r => .ok (.mk 0 [] [] (some e) none none [] [] [] 0) r
def Sm.withX (x : Tx) : Sm → Sm | .mk kd _ y e f c l th el a => .mk kd x y e f c l th el a
def Sm.withAt (a : Nat) : Sm → Sm | .mk kd x y e f c l th el _ => .mk kd x y e f c l th el a
def simple (f o : Nat) (ts : List Tok) : R Sm :=
 if sees ts [114, 101, 116, 117, 114, 110] then (sum f o ts.tail).bind fun e r => .ok (.mk 9 [] [] (some e) none none [] [] [] 0) r
 else if sees ts [97, 115, 115, 101, 114, 116] then (test f o ts.tail).bind fun c r => .ok (.mk 12 [] [] none none (some c) [] [] [] 0) r
 else if sees ts [42] then (nameR ts.tail).bind fun x r => want [61] r fun r => (sum f o r).bind fun e r => .ok (.mk 5 x [] (some e) none none [] [] [] 0) r
 else if txt ts 1 == [91] then put f o ts
 else if txt ts 1 == [40] then call f o ts
 else (nameR ts).bind fun x r => want [61] r fun r => (value f o r).bind fun s r => .ok (s.withX x) r
def seesStmt (ts : List Tok) : Bool := sees ts [42] || sees ts [114, 101, 116, 117, 114, 110] || sees ts [97, 115, 115, 101, 114, 116] || sees ts [105, 102] || sees ts [119, 104, 105, 108, 101] || isName ts
def branch (blk : Nat → List Tok → R (List Sm × Nat)) (f o k : Nat) (ts : List Tok) : R (Sm × Nat) :=
 want [105, 102] ts fun r => (test f o r).bind fun c r => (blk k r).bind fun p r =>
  if sees r [101, 108, 115, 101] then (blk p.2 r.tail).bind fun q r => .ok (.mk 10 [] [] none none (some c) [] p.1 q.1 0, q.2) r
  else .ok (.mk 10 [] [] none none (some c) [] p.1 [] 0, p.2) r
def loop (blk : Nat → List Tok → R (List Sm × Nat)) (f o k : Nat) (ts : List Tok) : R (Sm × Nat) :=
 want [119, 104, 105, 108, 101] ts fun r => (test f o r).bind fun c r => (blk k r).bind fun p r => .ok (.mk 11 [] [] none none (some c) [] p.1 [] 0, p.2) r
mutual
def stmt : Nat → Nat → Nat → List Tok → R (Sm × Nat)
 | 0, _, _, ts => .err 99 ts
 | f + 1, o, k, ts =>
  if seesStmt ts then
   if 200 ≤ k then .err 53 ts
   else if sees ts [105, 102] then (branch (fun k r => block f o k r) f o (k + 1) ts).bind fun p r => .ok (p.1.withAt k, p.2) r
   else if sees ts [119, 104, 105, 108, 101] then (loop (fun k r => block f o k r) f o (k + 1) ts).bind fun p r => .ok (p.1.withAt k, p.2) r
   else (simple f o ts).bind fun s r => want [59] r fun r => .ok (s.withAt k, k + 1) r
  else .err 51 ts
def block : Nat → Nat → Nat → List Tok → R (List Sm × Nat)
 | 0, _, _, ts => .err 99 ts
 | f + 1, o, k, ts =>
  if sees ts [123] then
   if 40 ≤ o then .err 52 ts
   else (stmts f (o + 1) k [] ts.tail).bind fun p r => want [125] r fun r => .ok p r
  else .err 51 ts
def stmts : Nat → Nat → Nat → List Sm → List Tok → R (List Sm × Nat)
 | 0, _, _, _, ts => .err 99 ts
 | f + 1, o, k, l, ts =>
  if sees ts [125] then .ok (l, k) ts
  else (stmt f o k ts).bind fun p r => stmts f o p.2 (l ++ [p.1]) r
end
theorem bind_inv {α β : Type} {x : R α} {g : α → List Tok → R β} {b : β} {r : List Tok} (h : x.bind g = .ok b r) : ∃ a s, x = .ok a s ∧ g a s = .ok b r := by
 cases x with
 | ok a s => exact ⟨a, s, rfl, h⟩
 | err e s => cases h
theorem passR_len {s : Tx} (hs : s ≠ []) {ts : List Tok} {a : Unit} {r : List Tok} (h : passR s ts = .ok a r) : r.length < ts.length := by
 unfold passR at h
 split at h
 ·
  rename_i h1
  have := sees_len hs h1
  injection h with _ h; subst h
  simp; omega
 · cases h
theorem nameR_len {ts : List Tok} {a : Tx} {r : List Tok} (h : nameR ts = .ok a r) : r.length < ts.length := by
 unfold nameR at h
 split at h
 ·
  rename_i h1
  injection h with _ h; subst h
  match ts, h1 with
  | t :: r, _ => simp
 · cases h
theorem sum_len {f o : Nat} {ts : List Tok} {a : Ex} {r : List Tok} (h : sum f o ts = .ok a r) : r.length < ts.length := (ex_len f).2.2.2.2 _ _ _ _ h
theorem cond_len {f o : Nat} {ts : List Tok} {a : Cn} {r : List Tok} (h : cond f o ts = .ok a r) : r.length < ts.length := (cn_len f).2.2.2.2 _ _ _ _ h
theorem index_len {f o : Nat} {ts : List Tok} {a : Ex} {r : List Tok} (h : index f o ts = .ok a r) : r.length < ts.length := by
 obtain ⟨_, _, h1, h⟩ := bind_inv h
 obtain ⟨_, _, h2, h⟩ := bind_inv h
 obtain ⟨_, _, h3, h⟩ := bind_inv h
 have := passR_len (by simp) h1
 have := sum_len h2
 have := passR_len (by simp) h3
 injection h with _ h; subst h
 omega
theorem test_len {f o : Nat} {ts : List Tok} {a : Cn} {r : List Tok} (h : test f o ts = .ok a r) : r.length < ts.length := by
 obtain ⟨_, _, h1, h⟩ := bind_inv h
 obtain ⟨_, _, h2, h⟩ := bind_inv h
 obtain ⟨_, _, h3, h⟩ := bind_inv h
 have := passR_len (by simp) h1
 have := cond_len h2
 have := passR_len (by simp) h3
 injection h with _ h; subst h
 omega
theorem argsL_len {f o : Nat} : ∀ (g : Nat) {l : List Ex} {ts : List Tok} {a : List Ex} {r : List Tok}, argsL f o g l ts = .ok a r → r.length < ts.length
 | 0, l, ts, a, r, h => by simp [argsL] at h
 | g + 1, l, ts, a, r, h => by
  unfold argsL at h
  split at h
  ·
   rename_i h1
   have := sees_len (by simp) h1
   injection h with _ h; subst h
   simp; omega
  ·
   split at h
   ·
    obtain ⟨_, _, h2, h⟩ := bind_inv h
    have := sum_len h2
    have := argsL_len g h
    omega
   ·
    obtain ⟨_, _, h1, h⟩ := bind_inv h
    obtain ⟨_, _, h2, h⟩ := bind_inv h
    have := passR_len (by simp) h1
    have := sum_len h2
    have := argsL_len g h
    omega
theorem args_len {f o : Nat} {ts : List Tok} {a : List Ex} {r : List Tok} (h : args f o ts = .ok a r) : r.length < ts.length := by
 obtain ⟨_, _, h1, h⟩ := bind_inv h
 have := passR_len (by simp) h1
 have := argsL_len f h
 omega
theorem call_len {f o : Nat} {ts : List Tok} {a : Sm} {r : List Tok} (h : call f o ts = .ok a r) : r.length < ts.length := by
 obtain ⟨_, _, h1, h⟩ := bind_inv h
 obtain ⟨_, _, h2, h⟩ := bind_inv h
 have := nameR_len h1
 have := args_len h2
 injection h with _ h; subst h
 omega
theorem put_len {f o : Nat} {ts : List Tok} {a : Sm} {r : List Tok} (h : put f o ts = .ok a r) : r.length < ts.length := by
 obtain ⟨_, _, h1, h⟩ := bind_inv h
 obtain ⟨_, _, h2, h⟩ := bind_inv h
 obtain ⟨_, _, h3, h⟩ := bind_inv h
 obtain ⟨_, _, h4, h⟩ := bind_inv h
 have := nameR_len h1
 have := index_len h2
 have := passR_len (by simp) h3
 have := sum_len h4
 injection h with _ h; subst h
 omega
theorem value_len {f o : Nat} {ts : List Tok} {a : Sm} {r : List Tok} (h : value f o ts = .ok a r) : r.length < ts.length := by
 unfold value at h
 split at h
 ·
  rename_i h1
  have := sees_len (by simp) h1
  injection h with _ h; subst h
  simp; omega
 ·
  split at h
  ·
   rename_i h1
   have := sees_len (by simp) h1
   obtain ⟨_, _, h1, h⟩ := bind_inv h
   have := nameR_len h1
   injection h with _ h; subst h
   simp at this; omega
  ·
   split at h
   ·
    rename_i h1
    have := sees_len (by simp) h1
    obtain ⟨_, _, h1, h⟩ := bind_inv h
    have := nameR_len h1
    injection h with _ h; subst h
    simp at this; omega
   ·
    split at h
    ·
     obtain ⟨_, _, h1, h⟩ := bind_inv h
     obtain ⟨_, _, h2, h⟩ := bind_inv h
     have := nameR_len h1
     have := index_len h2
     injection h with _ h; subst h
     omega
    ·
     split at h
     · exact call_len h
     ·
      obtain ⟨_, _, h1, h⟩ := bind_inv h
      have := sum_len h1
      injection h with _ h; subst h
      omega
theorem simple_len {f o : Nat} {ts : List Tok} {a : Sm} {r : List Tok} (h : simple f o ts = .ok a r) : r.length < ts.length := by
 unfold simple at h
 split at h
 ·
  rename_i h1
  have := sees_len (by simp) h1
  obtain ⟨_, _, h1, h⟩ := bind_inv h
  have := sum_len h1
  injection h with _ h; subst h
  simp at this; omega
 ·
  split at h
  ·
   rename_i h1
   have := sees_len (by simp) h1
   obtain ⟨_, _, h1, h⟩ := bind_inv h
   have := test_len h1
   injection h with _ h; subst h
   simp at this; omega
  ·
   split at h
   ·
    rename_i h1
    have := sees_len (by simp) h1
    obtain ⟨_, _, h1, h⟩ := bind_inv h
    obtain ⟨_, _, h2, h⟩ := bind_inv h
    obtain ⟨_, _, h3, h⟩ := bind_inv h
    have := nameR_len h1
    have := passR_len (by simp) h2
    have := sum_len h3
    injection h with _ h; subst h
    simp at *; omega
   ·
    split at h
    · exact put_len h
    ·
     split at h
     · exact call_len h
     ·
      obtain ⟨_, _, h1, h⟩ := bind_inv h
      obtain ⟨_, _, h2, h⟩ := bind_inv h
      obtain ⟨_, _, h3, h⟩ := bind_inv h
      have := nameR_len h1
      have := passR_len (by simp) h2
      have := value_len h3
      injection h with _ h; subst h
      omega
theorem branch_len {blk : Nat → List Tok → R (List Sm × Nat)} (hb : ∀ k r a r', blk k r = .ok a r' → r'.length < r.length) {f o k : Nat} {ts : List Tok} {a : Sm × Nat} {r : List Tok} (h : branch blk f o k ts = .ok a r) : r.length < ts.length := by
 obtain ⟨_, _, h1, h⟩ := bind_inv h
 obtain ⟨_, _, h2, h⟩ := bind_inv h
 obtain ⟨_, _, h3, h⟩ := bind_inv h
 have := passR_len (by simp) h1
 have := test_len h2
 have := hb _ _ _ _ h3
 split at h
 ·
  obtain ⟨_, _, h4, h⟩ := bind_inv h
  have := hb _ _ _ _ h4
  injection h with _ h; subst h
  simp at this; omega
 ·
  injection h with _ h; subst h
  omega
theorem loop_len {blk : Nat → List Tok → R (List Sm × Nat)} (hb : ∀ k r a r', blk k r = .ok a r' → r'.length < r.length) {f o k : Nat} {ts : List Tok} {a : Sm × Nat} {r : List Tok} (h : loop blk f o k ts = .ok a r) : r.length < ts.length := by
 obtain ⟨_, _, h1, h⟩ := bind_inv h
 obtain ⟨_, _, h2, h⟩ := bind_inv h
 obtain ⟨_, _, h3, h⟩ := bind_inv h
 have := passR_len (by simp) h1
 have := test_len h2
 have := hb _ _ _ _ h3
 injection h with _ h; subst h
 omega
theorem sm_len : ∀ (f : Nat), (∀ o k ts a r, stmt f o k ts = .ok a r → r.length < ts.length) ∧ (∀ o k ts a r, block f o k ts = .ok a r → r.length < ts.length) ∧ (∀ o k l ts a r, stmts f o k l ts = .ok a r → r.length ≤ ts.length)
 | 0 => ⟨fun o k ts a r h => by simp [stmt] at h, fun o k ts a r h => by simp [block] at h, fun o k l ts a r h => by simp [stmts] at h⟩
 | f + 1 => by
  obtain ⟨h1, h2, h3⟩ := sm_len f
  refine ⟨fun o k ts a r h => ?_, fun o k ts a r h => ?_, fun o k l ts a r h => ?_⟩
  ·
   unfold stmt at h
   split at h
   ·
    split at h
    · cases h
    ·
     split at h
     ·
      obtain ⟨_, _, q1, h⟩ := bind_inv h
      have := branch_len (fun k r a r' => h2 o k r a r') q1
      injection h with _ h; subst h
      exact this
     ·
      split at h
      ·
       obtain ⟨_, _, q1, h⟩ := bind_inv h
       have := loop_len (fun k r a r' => h2 o k r a r') q1
       injection h with _ h; subst h
       exact this
      ·
       obtain ⟨_, _, q1, h⟩ := bind_inv h
       obtain ⟨_, _, q2, h⟩ := bind_inv h
       have := simple_len q1
       have := passR_len (by simp) q2
       injection h with _ h; subst h
       omega
   · cases h
  ·
   unfold block at h
   split at h
   ·
    rename_i hs
    have := sees_len (by simp) hs
    split at h
    · cases h
    ·
     obtain ⟨_, _, q1, h⟩ := bind_inv h
     obtain ⟨_, _, q2, h⟩ := bind_inv h
     have := h3 _ _ _ _ _ _ q1
     have := passR_len (by simp) q2
     injection h with _ h; subst h
     simp at *; omega
   · cases h
  ·
   unfold stmts at h
   split at h
   · injection h with _ h; subst h; exact Nat.le_refl _
   ·
    obtain ⟨_, _, q1, h⟩ := bind_inv h
    have := h1 _ _ _ _ _ q1
    have := h3 _ _ _ _ _ _ h
    omega
end Px
end
section
namespace Px
open Lx (Tok Tx)
abbrev Vr := Tx × Bool
def declR (n m : Nat) (ts : List Tok) : R Tx := if isName ts then if n < m then .ok (txt ts 0) ts.tail else .err 53 ts else .err 51 ts
def param (n : Nat) (ts : List Tok) : R Vr := if sees ts [42] then (declR n 6 ts.tail).bind fun s r => .ok (s, true) r else (declR n 6 ts).bind fun s r => .ok (s, false) r
def paramsL : Nat → List Vr → List Tok → R (List Vr)
 | 0, _, ts => .err 99 ts
 | g + 1, l, ts =>
  if sees ts [41] then .ok l ts.tail
  else if l.length = 0 then (param l.length ts).bind fun e r => paramsL g (l ++ [e]) r
  else want [44] ts fun r => (param l.length r).bind fun e r => paramsL g (l ++ [e]) r
def params (f : Nat) (ts : List Tok) : R (List Vr) := want [40] ts fun r => paramsL f [] r
def localsL : Nat → List Vr → List Tok → R (List Vr)
 | 0, _, ts => .err 99 ts
 | g + 1, l, ts =>
  if sees ts [118, 97, 114] || sees ts [112, 116, 114] then (declR l.length 20 ts.tail).bind fun s r => want [59] r fun r => localsL g (l ++ [(s, sees ts [112, 116, 114])]) r
  else .ok l ts
structure Fn where
 name : Tx
 params : List Vr
 locals : List Vr
 body : List Sm
def inner (f o : Nat) (ts : List Tok) : R ((List Vr × List Sm) × Nat) := (localsL f [] ts).bind fun ls r => (stmts f o 0 [] r).bind fun p r => .ok ((ls, p.1), p.2) r
def funcR (f : Nat) (ts : List Tok) : R (Fn × Nat) :=
 want [102, 110] ts fun r => (nameR r).bind fun nm r => (params f r).bind fun ps r =>
  (if sees r [123] then inner f 1 r.tail else .err 51 r).bind fun p r => want [125] r fun r => .ok (⟨nm, ps, p.1.1, p.1.2⟩, p.2) r
def fuelOf (ts : List Tok) : Nat := 4 * ts.length + 12
structure Got (α : Type) where
 val : Option α
 pos : Nat
 err : Nat
def top {α : Type} (n : Nat) (r : R α) : Got α := match r with | .ok a [] => ⟨some a, 0, 0⟩ | .ok _ ts => ⟨none, place n ts, 51⟩ | .err e ts => ⟨none, place n ts, e⟩
def funcT (s : Tx) : Got (Fn × Nat) := if (Lx.toks s).err = 0 then top s.length (funcR (fuelOf (Lx.toks s).toks) (Lx.toks s).toks) else ⟨none, (Lx.toks s).pos, (Lx.toks s).err⟩
structure Gl where
 cells : List Tx
 arrays : List (Tx × Nat)
def lenR (ts : List Tok) : R Nat :=
 want [91] ts fun r => (if isNum r then (if Lx.val (txt r 0) = 0 then .err 51 r else if 1048576 < Lx.val (txt r 0) then .err 53 r else .ok (Lx.val (txt r 0)) r.tail) else .err 51 r : R Nat).bind fun n r => want [93] r fun r => .ok n r
def globL : Nat → Gl → List Tok → R Gl
 | 0, _, ts => .err 99 ts
 | f + 1, g, ts =>
  match ts with
  | [] => .ok g []
  | _ =>
   if sees ts [99, 101, 108, 108] then (declR (g.cells.length + g.arrays.length) 20 ts.tail).bind fun s r => want [59] r fun r => globL f ⟨g.cells ++ [s], g.arrays⟩ r
   else want [97, 114, 114, 97, 121] ts fun r => (declR (g.cells.length + g.arrays.length) 20 r).bind fun s r => (lenR r).bind fun n r => want [59] r fun r => globL f ⟨g.cells, g.arrays ++ [(s, n)]⟩ r
def globT (s : Tx) : Got Gl := if (Lx.toks s).err = 0 then top s.length (globL ((Lx.toks s).toks.length + 1) ⟨[], []⟩ (Lx.toks s).toks) else ⟨none, (Lx.toks s).pos, (Lx.toks s).err⟩
theorem declR_len {n m : Nat} {ts : List Tok} {a : Tx} {r : List Tok} (h : declR n m ts = .ok a r) : r.length < ts.length := by
 unfold declR at h
 split at h
 ·
  rename_i h1
  split at h
  ·
   injection h with _ h; subst h
   match ts, h1 with
   | t :: r, _ => simp
  · cases h
 · cases h
theorem param_len {n : Nat} {ts : List Tok} {a : Vr} {r : List Tok} (h : param n ts = .ok a r) : r.length < ts.length := by
 unfold param at h
 split at h
 ·
  obtain ⟨_, _, h1, h⟩ := bind_inv h
  have := declR_len h1
  injection h with _ h; subst h
  simp at this; omega
 ·
  obtain ⟨_, _, h1, h⟩ := bind_inv h
  have := declR_len h1
  injection h with _ h; subst h
  exact this
theorem paramsL_len : ∀ (g : Nat) {l : List Vr} {ts : List Tok} {a : List Vr} {r : List Tok}, paramsL g l ts = .ok a r → r.length < ts.length
 | 0, l, ts, a, r, h => by simp [paramsL] at h
 | g + 1, l, ts, a, r, h => by
  unfold paramsL at h
  split at h
  ·
   rename_i h1
   have := sees_len (by simp) h1
   injection h with _ h; subst h
   simp; omega
  ·
   split at h
   ·
    obtain ⟨_, _, h2, h⟩ := bind_inv h
    have := param_len h2
    have := paramsL_len g h
    omega
   ·
    obtain ⟨_, _, h1, h⟩ := bind_inv h
    obtain ⟨_, _, h2, h⟩ := bind_inv h
    have := passR_len (by simp) h1
    have := param_len h2
    have := paramsL_len g h
    omega
theorem params_len {f : Nat} {ts : List Tok} {a : List Vr} {r : List Tok} (h : params f ts = .ok a r) : r.length < ts.length := by
 obtain ⟨_, _, h1, h⟩ := bind_inv h
 have := passR_len (by simp) h1
 have := paramsL_len f h
 omega
theorem localsL_len : ∀ (g : Nat) {l : List Vr} {ts : List Tok} {a : List Vr} {r : List Tok}, localsL g l ts = .ok a r → r.length ≤ ts.length
 | 0, l, ts, a, r, h => by simp [localsL] at h
 | g + 1, l, ts, a, r, h => by
  unfold localsL at h
  split at h
  ·
   obtain ⟨_, _, h1, h⟩ := bind_inv h
   obtain ⟨_, _, h2, h⟩ := bind_inv h
   have := declR_len h1
   have := passR_len (by simp) h2
   have := localsL_len g h
   simp at *; omega
  · injection h with _ h; subst h; exact Nat.le_refl _
end Px
end
end Go.Proofs.YtbikifibfaaggaaGreatDoor
namespace Go.Proofs.YtbikifibfaaggaaGreatDoor.Lx
theorem drop_cons {l : Tx} {f : Nat} {b : UInt8} (h : l[f]? = some b) : l.drop f = b :: l.drop (f + 1) := by
 obtain ⟨hf, rfl⟩ := List.getElem?_eq_some_iff.1 h
 exact List.drop_eq_getElem_cons hf
theorem lt_of {l : Tx} {f : Nat} {b : UInt8} (h : l[f]? = some b) : f < l.length := (List.getElem?_eq_some_iff.1 h).1
theorem tail_len {p : UInt8 → Bool} {l : Tx} {f j : Nat} (hj : j ≤ l.length) (hf : f < j) (h1 : ∀ x c, f < x → x < j → l[x]? = some c → p c = true) (h2 : ∀ c, l[j]? = some c → p c = false) : ((l.drop (f + 1)).takeWhile p).length = j - (f + 1) := by
 refine takeWhile_len (fun i hi hk => ?_) (by rw [List.length_drop]; omega) (fun hi => ?_)
 ·
  rw [List.length_drop] at hi
  rw [List.getElem_drop]
  exact h1 _ _ (by omega) (by omega) (List.getElem?_eq_getElem (by omega))
 ·
  rw [List.length_drop] at hi
  rw [List.getElem_drop]
  have hx : f + 1 + (j - (f + 1)) = j := by omega
  refine h2 _ (List.getElem?_eq_some_iff.2 ⟨by omega, by simp only [hx]⟩)
theorem blank_ne {b : UInt8} (h : blank b = true) : b = 32 ∨ b = 9 ∨ b = 13 ∨ b = 10 := by simpa [blank] using h
theorem blank_word {b : UInt8} (h : blank b = true) : (b == 35) = false ∧ inWord b = false ∧ ∀ c, isOp [b, c] = false := by
 rcases blank_ne h with rfl | rfl | rfl | rfl <;> exact ⟨rfl, rfl, fun c => by simp [isOp, ops2]⟩
theorem one_of {b : UInt8} {t : Tx} (h1 : (b == 35) = false) (h2 : inWord b = false) (h3 : ∀ c, t.head? = some c → isOp [b, c] = false) : pieceLen (b :: t) = 1 := by
 rw [pl_cons, if_neg (by rw [h1]; simp), if_neg (by rw [h2]; simp)]
 cases t with
 | nil => rfl
 | cons c t => simp only; rw [if_neg (by rw [h3 c rfl]; simp)]
theorem ref_blank {l : Tx} {f : Nat} {b : UInt8} {ts : List Tok} (hb : l[f]? = some b) (h : blank b = true) : scan l f ts = scan l (f + 1) ts := by
 obtain ⟨h1, h2, h3⟩ := blank_word h
 have hd := drop_cons hb
 exact scan_step (p := [b]) (k := none) (lt_of hb) (by rw [hd]; exact one_of h1 h2 (fun c _ => h3 c)) (by rw [hd]; rfl) (by simp [judge, h])
theorem ref_hash {l : Tx} {f j : Nat} {ts : List Tok} (hb : l[f]? = some 35) (hj : j ≤ l.length) (hf : f < j) (h1 : ∀ x c, f < x → x < j → l[x]? = some c → (c != 10) = true) (h2 : ∀ c, l[j]? = some c → (c != 10) = false) : scan l f ts = scan l j ts := by
 have hd := drop_cons hb
 have ht := tail_len (p := (· != 10)) hj hf h1 h2
 have := scan_step (acc := ts) (p := (l.drop f).take (j - f)) (k := none) (m := j - f) (lt_of hb) (by rw [hd, pl_cons, if_pos (show ((35 : UInt8) == 35) = true from rfl), ht]; omega) rfl (by
  rw [hd, show j - f = (j - f - 1) + 1 by omega, List.take_succ_cons]; simp [judge])
 rw [show f + (j - f) = j by omega] at this
 exact this
theorem letter_word {b : UInt8} (h : letter b = true) : (b == 35) = false ∧ blank b = false ∧ digit b = false ∧ inWord b = true := by
 have hb : (b == 35) = false := by
  by_cases h35 : b = 35
  · subst h35; exact absurd h (by decide)
  · simp [h35]
 have hbl : blank b = false := by
  cases hbb : blank b with
  | false => rfl
  | true => rcases blank_ne hbb with rfl | rfl | rfl | rfl <;> exact absurd h (by decide)
 refine ⟨hb, hbl, ?_, by unfold inWord; rw [h]; rfl⟩
 simp [letter, ← UInt8.toNat_inj] at h
 rw [Bool.eq_false_iff]
 simp [digit]
 omega
theorem digit_word {b : UInt8} (h : digit b = true) : (b == 35) = false ∧ blank b = false ∧ letter b = false ∧ inWord b = true := by
 have h' := h
 simp [digit] at h'
 refine ⟨?_, ?_, ?_, by unfold inWord; rw [h]; simp⟩
 · rw [Bool.eq_false_iff]; simp [← UInt8.toNat_inj]; omega
 · rw [Bool.eq_false_iff]; simp [blank, ← UInt8.toNat_inj]; omega
 · rw [Bool.eq_false_iff]; simp [letter, ← UInt8.toNat_inj]; omega
theorem take_cons {l : Tx} {f j : Nat} {b : UInt8} (hb : l[f]? = some b) (hf : f < j) : (l.drop f).take (j - f) = b :: (l.drop (f + 1)).take (j - (f + 1)) := by
 rw [drop_cons hb, show j - f = (j - (f + 1)) + 1 by omega, List.take_succ_cons]
theorem ref_name {l : Tx} {f j : Nat} {b : UInt8} {ts : List Tok} (hb : l[f]? = some b) (hw : letter b = true) (hj : j ≤ l.length) (hf : f < j) (h1 : ∀ x c, f < x → x < j → l[x]? = some c → inWord c = true) (h2 : ∀ c, l[j]? = some c → inWord c = false) :
 (j - f ≤ 32 → scan l f ts = scan l j (ts ++ [⟨0, (l.drop f).take (j - f), f⟩])) ∧ (32 < j - f → scan l f ts = ⟨[], f, 53⟩) := by
 obtain ⟨e1, e2, e3, e4⟩ := letter_word hw
 have hd := drop_cons hb
 have ht := tail_len (p := inWord) hj hf h1 h2
 have hm : pieceLen (l.drop f) = j - f := by rw [hd, pl_cons, if_neg (by rw [e1]; simp), if_pos e4, ht]; omega
 have hlen : ((l.drop f).take (j - f)).length = j - f := by rw [List.length_take, List.length_drop]; omega
 have hjd : judge ((l.drop f).take (j - f)) = (some 0, if 32 < j - f then 53 else 0) := by
  rw [take_cons hb hf] at hlen ⊢
  simp only [judge, e1, e2, e3, hw, Bool.or_self, Bool.false_eq_true, if_false, if_true]
  rw [hlen]
 refine ⟨fun h => ?_, fun h => ?_⟩
 ·
  rw [if_neg (by omega)] at hjd
  have := scan_step (acc := ts) (lt_of hb) hm rfl hjd
  rw [show f + (j - f) = j by omega] at this
  exact this
 ·
  rw [if_pos h] at hjd
  exact scan_err (acc := ts) (lt_of hb) hm rfl hjd (by omega)
theorem takeWhile_eq {p : UInt8 → Bool} {t : Tx} {k : Nat} (h : (t.takeWhile p).length = k) : t.takeWhile p = t.take k := by
 rw [← h]
 exact List.prefix_iff_eq_take.1 (List.takeWhile_prefix p)
theorem tw_tw : ∀ (t : Tx), (t.takeWhile inWord).takeWhile digit = t.takeWhile digit
 | [] => rfl
 | c :: t => by
  cases hc : digit c with
  | true => rw [List.takeWhile_cons_of_pos (digit_word hc).2.2.2, List.takeWhile_cons_of_pos hc, List.takeWhile_cons_of_pos hc, tw_tw t]
  | false =>
   rw [List.takeWhile_cons_of_neg (l := t) (p := digit) (by rw [hc]; simp)]
   cases hw : inWord c with
   | true => rw [List.takeWhile_cons_of_pos hw, List.takeWhile_cons_of_neg (by rw [hc]; simp)]
   | false => rw [List.takeWhile_cons_of_neg (by rw [hw]; simp)]; rfl
theorem ref_num {l : Tx} {f j : Nat} {b : UInt8} {ts : List Tok} (hb : l[f]? = some b) (hw : digit b = true) (hj : j ≤ l.length) (hf : f < j) (h1 : ∀ x c, f < x → x < j → l[x]? = some c → digit c = true) (h2 : ∀ c, l[j]? = some c → digit c = false) :
 (9223372036854775807 < val ((l.drop f).take (j - f)) → scan l f ts = ⟨[], f, 53⟩) ∧
 (¬ 9223372036854775807 < val ((l.drop f).take (j - f)) → ((∃ c, l[j]? = some c ∧ letter c = true) ∨ (b = 48 ∧ 1 < j - f)) → scan l f ts = ⟨[], f, 50⟩) ∧
 (¬ 9223372036854775807 < val ((l.drop f).take (j - f)) → ¬ ((∃ c, l[j]? = some c ∧ letter c = true) ∨ (b = 48 ∧ 1 < j - f)) → scan l f ts = scan l j (ts ++ [⟨1, (l.drop f).take (j - f), f⟩])) := by
 obtain ⟨e1, e2, e3, e4⟩ := digit_word hw
 have hd := drop_cons hb
 have hdig := tail_len (p := digit) hj hf h1 h2
 obtain ⟨m, hm⟩ : ∃ m, m = pieceLen (l.drop f) := ⟨_, rfl⟩
 have hml : m ≤ (l.drop f).length := by rw [hm]; exact pieceLen_le _
 have hm2 : m = 1 + ((l.drop (f + 1)).takeWhile inWord).length := by rw [hm, hd, pl_cons, if_neg (by rw [e1]; simp), if_pos e4]
 have hpre : ((l.drop (f + 1)).takeWhile digit).length ≤ ((l.drop (f + 1)).takeWhile inWord).length := by
  rw [← tw_tw]
  exact (List.takeWhile_prefix _).length_le
 have hjm : j - f ≤ m := by omega
 have hpc : (l.drop f).take m = b :: ((l.drop (f + 1)).takeWhile inWord) := by
  rw [hd, hm2, Nat.add_comm 1, List.take_succ_cons, takeWhile_eq rfl]
  simp
 have hdg : ((l.drop f).take m).takeWhile digit = (l.drop f).take (j - f) := by
  rw [hpc, List.takeWhile_cons_of_pos hw, take_cons hb hf]
  congr 1
  rw [tw_tw]
  exact takeWhile_eq hdig
 have hlen : ((l.drop f).take (j - f)).length = j - f := by rw [List.length_take, List.length_drop]; omega
 have hlm : ((l.drop f).take m).length = m := by rw [List.length_take]; omega
 have hhead : ((l.drop f).take m).head? = some b := by rw [hpc]; rfl
 have hjd : judge ((l.drop f).take m) = (some 1, num ((l.drop f).take m)) := by
  rw [hpc]
  simp [judge, e1, e2, hw]
 have hnum : num ((l.drop f).take m) = if 9223372036854775807 < val ((l.drop f).take (j - f)) then 53 else if j - f < m ∨ (b = 48 ∧ 1 < j - f) then 50 else 0 := by
  unfold num
  rw [hdg, hlen, hlm, hhead]
  simp
 have hlet : j - f < m ↔ ∃ c, l[j]? = some c ∧ letter c = true := by
  constructor
  ·
   intro h
   have hjl : j < l.length := by rw [List.length_drop] at hml; omega
   refine ⟨l[j], List.getElem?_eq_getElem hjl, ?_⟩
   have hx : ((l.drop (f + 1)).takeWhile inWord)[j - (f + 1)]? = some l[j] := by
    rw [takeWhile_eq rfl, List.getElem?_take_of_lt (by omega), List.getElem?_drop, show f + 1 + (j - (f + 1)) = j by omega, List.getElem?_eq_getElem hjl]
   have hmem := List.mem_of_getElem? hx
   have hin := List.all_eq_true.1 (List.all_takeWhile (p := inWord) (l := l.drop (f + 1))) _ hmem
   have hnd := h2 l[j] (List.getElem?_eq_getElem hjl)
   unfold inWord at hin
   rw [hnd] at hin
   simpa using hin
  ·
   rintro ⟨c, hc, hcl⟩
   have hjl := lt_of hc
   by_cases h : j - f < m
   · exact h
   ·
    exfalso
    have hmj : ((l.drop (f + 1)).takeWhile inWord).length = j - (f + 1) := by omega
    have htw : (l.drop (f + 1)) = (l.drop (f + 1)).takeWhile inWord ++ (l.drop (f + 1)).dropWhile inWord := (List.takeWhile_append_dropWhile).symm
    have hx : (l.drop (f + 1))[j - (f + 1)]? = some c := by rw [List.getElem?_drop, show f + 1 + (j - (f + 1)) = j by omega]; exact hc
    rw [htw, List.getElem?_append_right (by omega), hmj, Nat.sub_self] at hx
    have hh := List.head?_dropWhile_not inWord (l.drop (f + 1))
    rw [List.head?_eq_getElem?, hx] at hh
    have hw2 := (letter_word hcl).2.2.2
    simp [hw2] at hh
 refine ⟨fun h => ?_, fun h h3 => ?_, fun h h3 => ?_⟩
 ·
  rw [if_pos h] at hnum
  rw [hnum] at hjd
  exact scan_err (acc := ts) (lt_of hb) hm.symm rfl hjd (by omega)
 ·
  rw [if_neg h, if_pos (by rw [hlet]; exact h3)] at hnum
  rw [hnum] at hjd
  exact scan_err (acc := ts) (lt_of hb) hm.symm rfl hjd (by omega)
 ·
  have hn3 : ¬ (j - f < m ∨ (b = 48 ∧ 1 < j - f)) := by rw [hlet]; exact h3
  rw [if_neg h, if_neg hn3] at hnum
  rw [hnum] at hjd
  have hmj : m = j - f := by omega
  have := scan_step (acc := ts) (lt_of hb) hm.symm rfl hjd
  rw [hmj, show f + (j - f) = j by omega] at this
  exact this
theorem val_next {l : Tx} {f j : Nat} {c : UInt8} (hf : f ≤ j) (hc : l[j]? = some c) : val ((l.drop f).take (j + 1 - f)) = 10 * val ((l.drop f).take (j - f)) + (c.toNat - 48) := by
 have hjl := lt_of hc
 have : (l.drop f).take (j + 1 - f) = (l.drop f).take (j - f) ++ [c] := by
  have hx : (l.drop f)[j - f]'(by rw [List.length_drop]; omega) = c := by
   rw [List.getElem_drop]
   obtain ⟨_, h⟩ := List.getElem?_eq_some_iff.1 hc
   rw [← h]; congr 1; omega
  rw [show j + 1 - f = (j - f) + 1 by omega, List.take_succ_eq_append_getElem (by rw [List.length_drop]; omega), hx]
 rw [this, val_snoc]
theorem op2_start {b c : UInt8} (h : isOp [b, c] = true) : (b == 35) = false ∧ blank b = false ∧ digit b = false ∧ letter b = false ∧ inWord b = false := by
 have : b = 61 ∨ b = 33 ∨ b = 60 ∨ b = 62 ∨ b = 38 ∨ b = 124 := by
  simp [isOp, ops2] at h
  rcases h with h | h | h | h | h | h <;> simp [h.1]
 rcases this with rfl | rfl | rfl | rfl | rfl | rfl <;> exact ⟨rfl, rfl, rfl, rfl, rfl⟩
theorem ref_two {l : Tx} {f : Nat} {b c : UInt8} {ts : List Tok} (hb : l[f]? = some b) (hc : l[f + 1]? = some c) (h : isOp [b, c] = true) : scan l f ts = scan l (f + 2) (ts ++ [⟨2, [b, c], f⟩]) := by
 obtain ⟨e1, e2, e3, e4, e5⟩ := op2_start h
 have hd := drop_cons hb
 rw [drop_cons hc] at hd
 exact scan_step (p := [b, c]) (k := some 2) (lt_of hb) (by rw [hd, pl_cons, if_neg (by rw [e1]; simp), if_neg (by rw [e5]; simp)]; simp only; rw [if_pos h]) (by rw [hd]; rfl) (by simp [judge, e1, e2, e3, e4, h])
theorem ref_one {l : Tx} {f : Nat} {b : UInt8} {ts : List Tok} (hb : l[f]? = some b) (e1 : (b == 35) = false) (e2 : blank b = false) (e3 : digit b = false) (e4 : letter b = false) (h2 : ∀ c, l[f + 1]? = some c → isOp [b, c] = false) :
 (ops1.contains b = true → scan l f ts = scan l (f + 1) (ts ++ [⟨2, [b], f⟩])) ∧ (ops1.contains b = false → scan l f ts = ⟨[], f, 50⟩) := by
 have hd := drop_cons hb
 have hm : pieceLen (l.drop f) = 1 := by
  rw [hd]
  refine one_of e1 (by unfold inWord; rw [e3, e4]; rfl) (fun c hc => h2 c ?_)
  rw [List.head?_drop] at hc; exact hc
 have hp : (l.drop f).take 1 = [b] := by rw [hd]; rfl
 have ho : isOp [b] = ops1.contains b := by
  unfold isOp
  have : ops2.contains [b] = false := by simp [ops2]
  rw [this]; rfl
 refine ⟨fun h => ?_, fun h => ?_⟩
 · exact scan_step (p := [b]) (k := some 2) (lt_of hb) hm hp (by simp [judge, e1, e2, e3, e4, ho, h, - List.contains_eq_mem])
 · exact scan_err (p := [b]) (k := none) (lt_of hb) hm hp (by simp [judge, e1, e2, e3, e4, ho, h, - List.contains_eq_mem]) (by omega)
end Go.Proofs.YtbikifibfaaggaaGreatDoor.Lx
namespace Go.Proofs.YtbikifibfaaggaaGreatDoor
section
theorem toks_len' (l : Lx.Tx) : (Lx.toks l).toks.length ≤ 4096 := by
 have key : ∀ (n f : Nat) (acc : List Lx.Tok), l.length - f ≤ n → (Lx.scan l f acc).toks.length ≤ acc.length + (l.length - f) := by
  intro n
  induction n with
  | zero =>
   intro f acc h
   rw [Lx.scan_end (by omega)]; simp
  | succ n ih =>
   intro f acc h
   by_cases hf : f < l.length
   ·
    obtain ⟨⟨k, e⟩, hj⟩ : ∃ j, j = Lx.judge ((l.drop f).take (Lx.pieceLen (l.drop f))) := ⟨_, rfl⟩
    have hp := Lx.pieceLen_pos (Lx.drop_ne hf)
    by_cases he : e = 0
    ·
     subst he
     rw [Lx.scan_step hf rfl rfl hj.symm]
     have := ih (f + Lx.pieceLen (l.drop f)) (Lx.addTok acc k ((l.drop f).take (Lx.pieceLen (l.drop f))) f) (by omega)
     have h2 : (Lx.addTok acc k ((l.drop f).take (Lx.pieceLen (l.drop f))) f).length ≤ acc.length + 1 := by cases k <;> simp [Lx.addTok]
     omega
    · rw [Lx.scan_err hf rfl rfl hj.symm he]; simp
   · rw [Lx.scan_end (by omega)]; simp
 unfold Lx.toks
 split
 · simp
 ·
  have := key l.length 0 [] (by omega)
  simp at this
  omega
theorem judge_wf {p : Lx.Tx} {k : Nat} (h0 : p ≠ []) (hl : p.length ≤ 4096) (h : Lx.judge p = (some k, 0)) (f : Nat) (hf : f ≤ 4096) : Px.Wf ⟨k, p, f⟩ := by
 match p, h0 with
 | b :: t, h0 =>
  unfold Lx.judge at h
  simp only at h
  split at h
  · simp at h
  ·
   split at h
   ·
    rename_i hd
    simp only [Prod.mk.injEq, Option.some.injEq] at h
    obtain ⟨rfl, hn⟩ := h
    unfold Lx.num at hn
    split at hn
    · simp at hn
    ·
     rename_i hv
     split at hn
     · simp at hn
     ·
      rename_i hx
      have hle := (List.takeWhile_prefix (l := b :: t) Lx.digit).length_le
      have heq : (b :: t).takeWhile Lx.digit = b :: t := (List.takeWhile_prefix Lx.digit).eq_of_length (by
       have : ¬ ((b :: t).takeWhile Lx.digit).length < (b :: t).length := fun h => hx (.inl h)
       omega)
      refine ⟨by simp, by simp, hl, fun _ => ⟨?_, ?_⟩, fun h => absurd rfl h, hf⟩
      ·
       intro c hc
       have hc' : c ∈ (b :: t).takeWhile Lx.digit := by rw [heq]; exact hc
       exact Lx.takeWhile_all _ c hc'
      ·
       show Lx.val (b :: t) ≤ _
       rw [← heq]; omega
   ·
    rename_i hd
    have hd' : Lx.digit b = false := by simpa using hd
    split at h
    ·
     simp only [Prod.mk.injEq, Option.some.injEq] at h
     obtain ⟨rfl, hn⟩ := h
     exact ⟨by simp, by simp, hl, fun h => by simp at h, fun _ c hc => by simp at hc; rw [← hc]; exact hd', hf⟩
    ·
     split at h
     ·
      simp only [Prod.mk.injEq, Option.some.injEq] at h
      obtain ⟨rfl, hn⟩ := h
      exact ⟨by simp, by simp, hl, fun h => by simp at h, fun _ c hc => by simp at hc; rw [← hc]; exact hd', hf⟩
     · simp at h
theorem toks_good (l : Lx.Tx) : Px.Good (Lx.toks l).toks := by
 refine ⟨?_, by have := toks_len' l; omega⟩
 by_cases hl : 4096 < l.length
 · unfold Lx.toks; rw [if_pos hl]; intro t ht; simp at ht
 have key : ∀ (n f : Nat) (acc : List Lx.Tok), l.length - f ≤ n → (∀ t ∈ acc, Px.Wf t) → ∀ t ∈ (Lx.scan l f acc).toks, Px.Wf t := by
  intro n
  induction n with
  | zero =>
   intro f acc h hw
   rw [Lx.scan_end (by omega)]; exact hw
  | succ n ih =>
   intro f acc h hw
   by_cases hf : f < l.length
   ·
    obtain ⟨⟨k, e⟩, hj⟩ : ∃ j, j = Lx.judge ((l.drop f).take (Lx.pieceLen (l.drop f))) := ⟨_, rfl⟩
    have hp := Lx.pieceLen_pos (Lx.drop_ne hf)
    by_cases he : e = 0
    ·
     subst he
     rw [Lx.scan_step hf rfl rfl hj.symm]
     refine ih (f + Lx.pieceLen (l.drop f)) _ (by omega) ?_
     cases k with
     | none => exact hw
     | some k =>
      intro t ht
      simp only [Lx.addTok, List.mem_append, List.mem_singleton] at ht
      rcases ht with ht | rfl
      · exact hw t ht
      ·
       have hple := Lx.pieceLen_le (l.drop f)
       have hdl : (l.drop f).length = l.length - f := List.length_drop ..
       exact judge_wf (fun h0 => by
        have := congrArg List.length h0
        simp at this; omega) (by simp; omega) hj.symm f (by omega)
    · rw [Lx.scan_err hf rfl rfl hj.symm he]; intro t ht; simp at ht
   · rw [Lx.scan_end (by omega)]; exact hw
 unfold Lx.toks
 rw [if_neg hl]
 exact key l.length 0 [] (by omega) (by simp)
end
section
namespace Px
open Lx (Tok Tx)
def lexF : Nat → Tx → Nat → List Tok → Lx.Out
 | 0, _, p, acc => ⟨acc, p, 99⟩
 | f + 1, l, p, acc =>
  match l with
  | [] => ⟨acc, 0, 0⟩
  | c :: t =>
   match Lx.judge ((c :: t).take (Lx.pieceLen (c :: t))) with
   | (k, 0) => lexF f ((c :: t).drop (Lx.pieceLen (c :: t))) (p + Lx.pieceLen (c :: t)) (Lx.addTok acc k ((c :: t).take (Lx.pieceLen (c :: t))) p)
   | (_, e + 1) => ⟨[], p, e + 1⟩
theorem lexF_scan (s : Tx) : ∀ (f p : Nat) (acc : List Tok), s.length - p < f → lexF f (s.drop p) p acc = Lx.scan s p acc := by
 intro f
 induction f with
 | zero => intro p acc h; omega
 | succ f ih =>
  intro p acc h
  by_cases hp : p < s.length
  ·
   obtain ⟨c, t, hct⟩ : ∃ c t, s.drop p = c :: t := by
    match hd : s.drop p with
    | [] => have := congrArg List.length hd; simp at this; omega
    | c :: t => exact ⟨c, t, rfl⟩
   have hpos := Lx.pieceLen_pos (Lx.drop_ne hp)
   unfold lexF
   rw [hct]
   simp only
   rw [← hct]
   obtain ⟨⟨k, e⟩, hj⟩ : ∃ j, j = Lx.judge ((s.drop p).take (Lx.pieceLen (s.drop p))) := ⟨_, rfl⟩
   rw [← hj]
   cases e with
   | zero =>
    simp only
    rw [List.drop_drop, ih _ _ (by omega), Lx.scan_step hp rfl rfl hj.symm]
   | succ e =>
    simp only
    rw [Lx.scan_err hp rfl rfl hj.symm (by omega)]
  ·
   unfold lexF
   rw [List.drop_eq_nil_of_le (by omega), Lx.scan_end (by omega)]
theorem toks_run (s : Tx) (h : s.length ≤ 4096) : Lx.toks s = lexF (s.length + 1) s 0 [] := by
 unfold Lx.toks
 rw [if_neg (by omega)]
 have := lexF_scan s (s.length + 1) 0 [] (by omega)
 rw [List.drop_zero] at this
 exact this.symm
def runF (s : Tx) : Got (Fn × Nat) := match lexF (s.length + 1) s 0 [] with | ⟨ts, p, e⟩ => if e = 0 then top s.length (funcR (fuelOf ts) ts) else ⟨none, p, e⟩
def runG (s : Tx) : Got Gl := match lexF (s.length + 1) s 0 [] with | ⟨ts, p, e⟩ => if e = 0 then top s.length (globL (ts.length + 1) ⟨[], []⟩ ts) else ⟨none, p, e⟩
theorem funcT_run (s : Tx) (h : s.length ≤ 4096) : funcT s = runF s := by unfold funcT runF; rw [toks_run s h]
theorem globT_run (s : Tx) (h : s.length ≤ 4096) : globT s = runG s := by unfold globT runG; rw [toks_run s h]
theorem ex1 : funcT [102, 110, 32, 102, 40, 120, 41, 32, 123, 32, 114, 101, 116, 117, 114, 110, 32, 120, 32, 43, 32, 49, 59, 32, 125] = ⟨some (⟨[102], [([120], false)], [], [.mk 9 [] [] (some (.bin 2 (.var [120]) (.num 1))) none none [] [] [] 0]⟩, 1), 0, 0⟩ := by
 rw [funcT_run _ (by decide)]
 kernel_rfl
theorem ex2 : funcT [102, 110, 32, 102, 40, 120, 41, 32, 123, 32, 114, 101, 116, 117, 114, 110, 32, 59, 32, 125] = ⟨none, 17, 51⟩ := by
 rw [funcT_run _ (by decide)]
 kernel_rfl
theorem ex3 : globT [99, 101, 108, 108, 32, 99, 59, 32, 97, 114, 114, 97, 121, 32, 97, 91, 51, 93, 59] = ⟨some ⟨[[99]], [([97], 3)]⟩, 0, 0⟩ := by
 rw [globT_run _ (by decide)]
 kernel_rfl
end Px
end
section
namespace Px
open Lx (Tok Tx)
def wname : Nat → Tx | 0 => [102, 110] | 1 => [118, 97, 114] | 2 => [112, 116, 114] | 3 => [105, 102] | 4 => [101, 108, 115, 101] | 5 => [119, 104, 105, 108, 101] | 6 => [114, 101, 116, 117, 114, 110] | 7 => [97, 115, 115, 101, 114, 116] | 8 => [110, 117, 108, 108] | 9 => [99, 101, 108, 108] | 10 => [97, 114, 114, 97, 121] | 11 => [102, 110, 120] | 12 => [73, 102] | _ => [95]
def wpre : Nat → Tx | 0 => [102, 110, 32] | 1 => [102, 110, 32, 102, 40] | 2 => [102, 110, 32, 102, 40, 41, 32, 123, 32, 118, 97, 114, 32] | 3 => [102, 110, 32, 102, 40, 41, 32, 123, 32, 120, 32, 61, 32] | 4 => [102, 110, 32, 102, 40, 41, 32, 123, 32, 120, 32, 61, 32, 103, 40, 49, 44, 32] | _ => [102, 110, 32, 102, 40, 41, 32, 123, 32, 120, 32, 61, 32, 49, 32, 43, 32]
def wpost : Nat → Tx | 0 => [40, 41, 32, 123, 32, 125] | 1 => [41, 32, 123, 32, 125] | 2 => [59, 32, 125] | 3 => [59, 32, 125] | 4 => [41, 59, 32, 125] | _ => [59, 32, 125]
def wtext (i j : Nat) : Tx := (wpre j ++ wname i) ++ wpost j
def wgood (i j : Nat) : Bool := Nat.ble 11 i || (Nat.beq i 8 && Nat.beq j 3)
def wordOk (i j : Nat) : Bool := match runF (wtext i j) with | ⟨_, _, e⟩ => (match wgood i j with | true => Nat.beq e 0 | false => Nat.blt 0 e)
def wordsAll (j : Nat) : Bool := (List.range 14).all fun i => wordOk i j
set_option maxRecDepth 100000
theorem words0 : wordsAll 0 = true := by kernel_rfl
theorem words1 : wordsAll 1 = true := by kernel_rfl
theorem words2 : wordsAll 2 = true := by kernel_rfl
theorem words3 : wordsAll 3 = true := by kernel_rfl
theorem words4 : wordsAll 4 = true := by kernel_rfl
theorem words5 : wordsAll 5 = true := by kernel_rfl
theorem word_ok (i j : Nat) (hi : i < 14) (hj : j < 6) : wordOk i j = true := by
 have ha : wordsAll j = true := by
  match j, hj with
  | 0, _ => exact words0
  | 1, _ => exact words1
  | 2, _ => exact words2
  | 3, _ => exact words3
  | 4, _ => exact words4
  | 5, _ => exact words5
 exact List.all_eq_true.1 ha i (List.mem_range.2 hi)
theorem wname_len (i : Nat) : (wname i).length ≤ 6 := by unfold wname; split <;> decide
theorem wtext_len (i j : Nat) : (wtext i j).length ≤ 100 := by
 have h1 := wname_len i
 have h2 : (wpre j).length ≤ 40 := by unfold wpre; split <;> decide
 have h3 : (wpost j).length ≤ 40 := by unfold wpost; split <;> decide
 unfold wtext
 simp only [List.length_append]
 omega
theorem word_err (i j : Nat) (hi : i < 14) (hj : j < 6) : ((funcT (wtext i j)).err = 0 ↔ (11 ≤ i ∨ (i = 8 ∧ j = 3))) := by
 have hk := word_ok i j hi hj
 rw [funcT_run _ (by have := wtext_len i j; omega)]
 unfold wordOk at hk
 obtain ⟨o, ho⟩ : ∃ o, o = runF (wtext i j) := ⟨_, rfl⟩
 rw [← ho] at hk ⊢
 obtain ⟨v, p, e⟩ := o
 simp only at hk ⊢
 cases hg : wgood i j with
 | true =>
  rw [hg] at hk
  simp only [Nat.beq_eq] at hk
  unfold wgood at hg
  simp only [Bool.or_eq_true, Bool.and_eq_true, Nat.ble_eq, Nat.beq_eq] at hg
  exact ⟨fun _ => hg, fun _ => hk⟩
 | false =>
  rw [hg] at hk
  simp only [Nat.blt_eq] at hk
  unfold wgood at hg
  refine ⟨fun h => by omega, fun h => ?_⟩
  have : (Nat.ble 11 i || (Nat.beq i 8 && Nat.beq j 3)) = true := by
   simp only [Bool.or_eq_true, Bool.and_eq_true, Nat.ble_eq, Nat.beq_eq]
   exact h
  rw [this] at hg; cases hg
end Px
end
end Go.Proofs.YtbikifibfaaggaaGreatDoor
