/- Statements and functions as mathematics. -/
import Derived.Test.YtbikifibfaaggaaGreatDoorPMath2
namespace Go.Proofs.YtbikifibfaaggaaGreatDoor
namespace Px
open Lx (Tok Tx)

inductive Sm where
  | mk (kd : Nat) (x y : Tx) (e f : Option Ex) (c : Option Cn) (args : List Ex) (th el : List Sm) (a : Nat)
theorem bind_ok {α β : Type} (a : α) (ts : List Tok) (g : α → List Tok → R β) : (R.ok a ts).bind g = g a ts := rfl
def passR (s : Tx) (ts : List Tok) : R Unit := if sees ts s then .ok () ts.tail else .err 51 ts
abbrev want {α : Type} (s : Tx) (ts : List Tok) (g : List Tok → R α) : R α := (passR s ts).bind fun _ r => g r
def nameR (ts : List Tok) : R Tx := if isName ts then .ok (txt ts 0) ts.tail else .err 51 ts
def index (f o : Nat) (ts : List Tok) : R Ex := want [91] ts fun r => (sum f o r).bind fun e r => want [93] r fun r => .ok e r
def test (f o : Nat) (ts : List Tok) : R Cn := want [40] ts fun r => (cond f o r).bind fun c r => want [41] r fun r => .ok c r
/-- Arguments, up to the bracket that ends them and is passed. -/
def argsL (f o : Nat) : Nat → List Ex → List Tok → R (List Ex)
  | 0, _, ts => .err 99 ts
  | g + 1, l, ts =>
    if sees ts [41] then .ok l ts.tail
    else if l.length = 0 then (sum f o ts).bind fun e r => argsL f o g (l ++ [e]) r
    else want [44] ts fun r => (sum f o r).bind fun e r => argsL f o g (l ++ [e]) r
def args (f o : Nat) (ts : List Tok) : R (List Ex) := want [40] ts fun r => argsL f o f [] r
def call (f o : Nat) (ts : List Tok) : R Sm := (nameR ts).bind fun y r => (args f o r).bind fun l r => .ok (.mk 8 [] y none none none l [] [] 0) r
def put (f o : Nat) (ts : List Tok) : R Sm := (nameR ts).bind fun y r => (index f o r).bind fun e r => want [61] r fun r => (sum f o r).bind fun x r => .ok (.mk 7 [] y (some e) (some x) none [] [] [] 0) r
def value (f o : Nat) (ts : List Tok) : R Sm :=
  if sees ts [110, 117, 108, 108] then .ok (.mk 3 [] [] none none none [] [] [] 0) ts.tail
  else if sees ts [38] then (nameR ts.tail).bind fun y r => .ok (.mk 1 [] y none none none [] [] [] 0) r
  else if sees ts [42] then (nameR ts.tail).bind fun y r => .ok (.mk 4 [] y none none none [] [] [] 0) r
  else if isName ts && txt ts 1 == [91] then (nameR ts).bind fun y r => (index f o r).bind fun e r => .ok (.mk 6 [] y (some e) none none [] [] [] 0) r
  else if isName ts && txt ts 1 == [40] then call f o ts
  else (sum f o ts).bind fun e r => .ok (.mk 0 [] [] (some e) none none [] [] [] 0) r
def Sm.withX (x : Tx) : Sm → Sm | .mk kd _ y e f c l th el a => .mk kd x y e f c l th el a
def Sm.withAt (a : Nat) : Sm → Sm | .mk kd x y e f c l th el _ => .mk kd x y e f c l th el a
def simple (f o : Nat) (ts : List Tok) : R Sm :=
  if sees ts [114, 101, 116, 117, 114, 110] then (sum f o ts.tail).bind fun e r => .ok (.mk 9 [] [] (some e) none none [] [] [] 0) r
  else if sees ts [97, 115, 115, 101, 114, 116] then (test f o ts.tail).bind fun c r => .ok (.mk 12 [] [] none none (some c) [] [] [] 0) r
  else if sees ts [42] then (nameR ts.tail).bind fun x r => want [61] r fun r => (sum f o r).bind fun e r => .ok (.mk 5 x [] (some e) none none [] [] [] 0) r
  else if txt ts 1 == [91] then put f o ts
  else if txt ts 1 == [40] then call f o ts
  else (nameR ts).bind fun x r => want [61] r fun r => (value f o r).bind fun s r => .ok (s.withX x) r
def seesStmt (ts : List Tok) : Bool := sees ts [42] || sees ts [114, 101, 116, 117, 114, 110] || sees ts [97, 115, 115, 101, 114, 116] || sees ts [105, 102] || sees ts [119, 104, 105, 108, 101] || isName ts
def branch (blk : Nat → List Tok → R (List Sm × Nat)) (f o k : Nat) (ts : List Tok) : R (Sm × Nat) :=
  want [105, 102] ts fun r => (test f o r).bind fun c r => (blk k r).bind fun p r =>
    if sees r [101, 108, 115, 101] then (blk p.2 r.tail).bind fun q r => .ok (.mk 10 [] [] none none (some c) [] p.1 q.1 0, q.2) r
    else .ok (.mk 10 [] [] none none (some c) [] p.1 [] 0, p.2) r
def loop (blk : Nat → List Tok → R (List Sm × Nat)) (f o k : Nat) (ts : List Tok) : R (Sm × Nat) :=
  want [119, 104, 105, 108, 101] ts fun r => (test f o r).bind fun c r => (blk k r).bind fun p r => .ok (.mk 11 [] [] none none (some c) [] p.1 [] 0, p.2) r
mutual
def stmt : Nat → Nat → Nat → List Tok → R (Sm × Nat)
  | 0, _, _, ts => .err 99 ts
  | f + 1, o, k, ts =>
    if seesStmt ts then
      if 200 ≤ k then .err 53 ts
      else if sees ts [105, 102] then (branch (fun k r => block f o k r) f o (k + 1) ts).bind fun p r => .ok (p.1.withAt k, p.2) r
      else if sees ts [119, 104, 105, 108, 101] then (loop (fun k r => block f o k r) f o (k + 1) ts).bind fun p r => .ok (p.1.withAt k, p.2) r
      else (simple f o ts).bind fun s r => want [59] r fun r => .ok (s.withAt k, k + 1) r
    else .err 51 ts
def block : Nat → Nat → Nat → List Tok → R (List Sm × Nat)
  | 0, _, _, ts => .err 99 ts
  | f + 1, o, k, ts =>
    if sees ts [123] then
      if 40 ≤ o then .err 52 ts
      else (stmts f (o + 1) k [] ts.tail).bind fun p r => want [125] r fun r => .ok p r
    else .err 51 ts
def stmts : Nat → Nat → Nat → List Sm → List Tok → R (List Sm × Nat)
  | 0, _, _, _, ts => .err 99 ts
  | f + 1, o, k, l, ts =>
    if sees ts [125] then .ok (l, k) ts
    else (stmt f o k ts).bind fun p r => stmts f o p.2 (l ++ [p.1]) r
end
theorem bind_inv {α β : Type} {x : R α} {g : α → List Tok → R β} {b : β} {r : List Tok} (h : x.bind g = .ok b r) : ∃ a s, x = .ok a s ∧ g a s = .ok b r := by
  cases x with
  | ok a s => exact ⟨a, s, rfl, h⟩
  | err e s => cases h
theorem passR_len {s : Tx} (hs : s ≠ []) {ts : List Tok} {a : Unit} {r : List Tok} (h : passR s ts = .ok a r) : r.length < ts.length := by
  unfold passR at h
  split at h
  · rename_i h1
    have := sees_len hs h1
    injection h with _ h; subst h
    simp; omega
  · cases h
theorem nameR_len {ts : List Tok} {a : Tx} {r : List Tok} (h : nameR ts = .ok a r) : r.length < ts.length := by
  unfold nameR at h
  split at h
  · rename_i h1
    injection h with _ h; subst h
    match ts, h1 with
    | t :: r, _ => simp
  · cases h
theorem sum_len {f o : Nat} {ts : List Tok} {a : Ex} {r : List Tok} (h : sum f o ts = .ok a r) : r.length < ts.length := (ex_len f).2.2.2.2 _ _ _ _ h
theorem cond_len {f o : Nat} {ts : List Tok} {a : Cn} {r : List Tok} (h : cond f o ts = .ok a r) : r.length < ts.length := (cn_len f).2.2.2.2 _ _ _ _ h
theorem index_len {f o : Nat} {ts : List Tok} {a : Ex} {r : List Tok} (h : index f o ts = .ok a r) : r.length < ts.length := by
  obtain ⟨_, _, h1, h⟩ := bind_inv h
  obtain ⟨_, _, h2, h⟩ := bind_inv h
  obtain ⟨_, _, h3, h⟩ := bind_inv h
  have := passR_len (by simp) h1
  have := sum_len h2
  have := passR_len (by simp) h3
  injection h with _ h; subst h
  omega
theorem test_len {f o : Nat} {ts : List Tok} {a : Cn} {r : List Tok} (h : test f o ts = .ok a r) : r.length < ts.length := by
  obtain ⟨_, _, h1, h⟩ := bind_inv h
  obtain ⟨_, _, h2, h⟩ := bind_inv h
  obtain ⟨_, _, h3, h⟩ := bind_inv h
  have := passR_len (by simp) h1
  have := cond_len h2
  have := passR_len (by simp) h3
  injection h with _ h; subst h
  omega
theorem argsL_len {f o : Nat} : ∀ (g : Nat) {l : List Ex} {ts : List Tok} {a : List Ex} {r : List Tok}, argsL f o g l ts = .ok a r → r.length < ts.length
  | 0, l, ts, a, r, h => by simp [argsL] at h
  | g + 1, l, ts, a, r, h => by
    unfold argsL at h
    split at h
    · rename_i h1
      have := sees_len (by simp) h1
      injection h with _ h; subst h
      simp; omega
    · split at h
      · obtain ⟨_, _, h2, h⟩ := bind_inv h
        have := sum_len h2
        have := argsL_len g h
        omega
      · obtain ⟨_, _, h1, h⟩ := bind_inv h
        obtain ⟨_, _, h2, h⟩ := bind_inv h
        have := passR_len (by simp) h1
        have := sum_len h2
        have := argsL_len g h
        omega
theorem args_len {f o : Nat} {ts : List Tok} {a : List Ex} {r : List Tok} (h : args f o ts = .ok a r) : r.length < ts.length := by
  obtain ⟨_, _, h1, h⟩ := bind_inv h
  have := passR_len (by simp) h1
  have := argsL_len f h
  omega
theorem call_len {f o : Nat} {ts : List Tok} {a : Sm} {r : List Tok} (h : call f o ts = .ok a r) : r.length < ts.length := by
  obtain ⟨_, _, h1, h⟩ := bind_inv h
  obtain ⟨_, _, h2, h⟩ := bind_inv h
  have := nameR_len h1
  have := args_len h2
  injection h with _ h; subst h
  omega
theorem put_len {f o : Nat} {ts : List Tok} {a : Sm} {r : List Tok} (h : put f o ts = .ok a r) : r.length < ts.length := by
  obtain ⟨_, _, h1, h⟩ := bind_inv h
  obtain ⟨_, _, h2, h⟩ := bind_inv h
  obtain ⟨_, _, h3, h⟩ := bind_inv h
  obtain ⟨_, _, h4, h⟩ := bind_inv h
  have := nameR_len h1
  have := index_len h2
  have := passR_len (by simp) h3
  have := sum_len h4
  injection h with _ h; subst h
  omega
theorem value_len {f o : Nat} {ts : List Tok} {a : Sm} {r : List Tok} (h : value f o ts = .ok a r) : r.length < ts.length := by
  unfold value at h
  split at h
  · rename_i h1
    have := sees_len (by simp) h1
    injection h with _ h; subst h
    simp; omega
  · split at h
    · rename_i h1
      have := sees_len (by simp) h1
      obtain ⟨_, _, h1, h⟩ := bind_inv h
      have := nameR_len h1
      injection h with _ h; subst h
      simp at this; omega
    · split at h
      · rename_i h1
        have := sees_len (by simp) h1
        obtain ⟨_, _, h1, h⟩ := bind_inv h
        have := nameR_len h1
        injection h with _ h; subst h
        simp at this; omega
      · split at h
        · obtain ⟨_, _, h1, h⟩ := bind_inv h
          obtain ⟨_, _, h2, h⟩ := bind_inv h
          have := nameR_len h1
          have := index_len h2
          injection h with _ h; subst h
          omega
        · split at h
          · exact call_len h
          · obtain ⟨_, _, h1, h⟩ := bind_inv h
            have := sum_len h1
            injection h with _ h; subst h
            omega
theorem simple_len {f o : Nat} {ts : List Tok} {a : Sm} {r : List Tok} (h : simple f o ts = .ok a r) : r.length < ts.length := by
  unfold simple at h
  split at h
  · rename_i h1
    have := sees_len (by simp) h1
    obtain ⟨_, _, h1, h⟩ := bind_inv h
    have := sum_len h1
    injection h with _ h; subst h
    simp at this; omega
  · split at h
    · rename_i h1
      have := sees_len (by simp) h1
      obtain ⟨_, _, h1, h⟩ := bind_inv h
      have := test_len h1
      injection h with _ h; subst h
      simp at this; omega
    · split at h
      · rename_i h1
        have := sees_len (by simp) h1
        obtain ⟨_, _, h1, h⟩ := bind_inv h
        obtain ⟨_, _, h2, h⟩ := bind_inv h
        obtain ⟨_, _, h3, h⟩ := bind_inv h
        have := nameR_len h1
        have := passR_len (by simp) h2
        have := sum_len h3
        injection h with _ h; subst h
        simp at *; omega
      · split at h
        · exact put_len h
        · split at h
          · exact call_len h
          · obtain ⟨_, _, h1, h⟩ := bind_inv h
            obtain ⟨_, _, h2, h⟩ := bind_inv h
            obtain ⟨_, _, h3, h⟩ := bind_inv h
            have := nameR_len h1
            have := passR_len (by simp) h2
            have := value_len h3
            injection h with _ h; subst h
            omega
theorem branch_len {blk : Nat → List Tok → R (List Sm × Nat)} (hb : ∀ k r a r', blk k r = .ok a r' → r'.length < r.length) {f o k : Nat} {ts : List Tok} {a : Sm × Nat} {r : List Tok} (h : branch blk f o k ts = .ok a r) : r.length < ts.length := by
  obtain ⟨_, _, h1, h⟩ := bind_inv h
  obtain ⟨_, _, h2, h⟩ := bind_inv h
  obtain ⟨_, _, h3, h⟩ := bind_inv h
  have := passR_len (by simp) h1
  have := test_len h2
  have := hb _ _ _ _ h3
  split at h
  · obtain ⟨_, _, h4, h⟩ := bind_inv h
    have := hb _ _ _ _ h4
    injection h with _ h; subst h
    simp at this; omega
  · injection h with _ h; subst h
    omega
theorem loop_len {blk : Nat → List Tok → R (List Sm × Nat)} (hb : ∀ k r a r', blk k r = .ok a r' → r'.length < r.length) {f o k : Nat} {ts : List Tok} {a : Sm × Nat} {r : List Tok} (h : loop blk f o k ts = .ok a r) : r.length < ts.length := by
  obtain ⟨_, _, h1, h⟩ := bind_inv h
  obtain ⟨_, _, h2, h⟩ := bind_inv h
  obtain ⟨_, _, h3, h⟩ := bind_inv h
  have := passR_len (by simp) h1
  have := test_len h2
  have := hb _ _ _ _ h3
  injection h with _ h; subst h
  omega
theorem sm_len : ∀ (f : Nat), (∀ o k ts a r, stmt f o k ts = .ok a r → r.length < ts.length) ∧ (∀ o k ts a r, block f o k ts = .ok a r → r.length < ts.length) ∧ (∀ o k l ts a r, stmts f o k l ts = .ok a r → r.length ≤ ts.length)
  | 0 => ⟨fun o k ts a r h => by simp [stmt] at h, fun o k ts a r h => by simp [block] at h, fun o k l ts a r h => by simp [stmts] at h⟩
  | f + 1 => by
    obtain ⟨h1, h2, h3⟩ := sm_len f
    refine ⟨fun o k ts a r h => ?_, fun o k ts a r h => ?_, fun o k l ts a r h => ?_⟩
    · unfold stmt at h
      split at h
      · split at h
        · cases h
        · split at h
          · obtain ⟨_, _, q1, h⟩ := bind_inv h
            have := branch_len (fun k r a r' => h2 o k r a r') q1
            injection h with _ h; subst h
            exact this
          · split at h
            · obtain ⟨_, _, q1, h⟩ := bind_inv h
              have := loop_len (fun k r a r' => h2 o k r a r') q1
              injection h with _ h; subst h
              exact this
            · obtain ⟨_, _, q1, h⟩ := bind_inv h
              obtain ⟨_, _, q2, h⟩ := bind_inv h
              have := simple_len q1
              have := passR_len (by simp) q2
              injection h with _ h; subst h
              omega
      · cases h
    · unfold block at h
      split at h
      · rename_i hs
        have := sees_len (by simp) hs
        split at h
        · cases h
        · obtain ⟨_, _, q1, h⟩ := bind_inv h
          obtain ⟨_, _, q2, h⟩ := bind_inv h
          have := h3 _ _ _ _ _ _ q1
          have := passR_len (by simp) q2
          injection h with _ h; subst h
          simp at *; omega
      · cases h
    · unfold stmts at h
      split at h
      · injection h with _ h; subst h; exact Nat.le_refl _
      · obtain ⟨_, _, q1, h⟩ := bind_inv h
        have := h1 _ _ _ _ _ q1
        have := h3 _ _ _ _ _ _ h
        omega
end Px
end Go.Proofs.YtbikifibfaaggaaGreatDoor
