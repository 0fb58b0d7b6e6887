/- Parameters and locals. -/
import Derived.Test.YtbikifibfaaggaaGreatDoorPSts
import Derived.Test.YtbikifibfaaggaaGreatDoorPMath4
namespace Go.Proofs.YtbikifibfaaggaaGreatDoor
open Go.RowKit Go.Shelf
open Lx (Tok Tx)
open Px (Ex Cn Sm Vr)

def varCells (l : List Vr) : List Value := l.flatMap fun p => [.string (strO p.1), .bool p.2]
theorem varCells_snoc (l : List Vr) (p : Vr) : varCells (l ++ [p]) = varCells l ++ [.string (strO p.1), .bool p.2] := by simp [varCells]
/-- Parameters or locals in memory. -/
def VarsAt (w : World) (b : Nat) (l : List Vr) (v : Value) : Prop := w.ownsRow (b + 1) 123 2 v l.length (varCells l)
def VarAt (_ : World) (_ : Nat) (p : Vr) (v : Value) : Prop := v = .agg #[.string (strO p.1), .bool p.2]
theorem decl_rp (w : World) (b n o k : Nat) (ts : List Tok) (h : PAt w b n ts o k) (c m : Nat) (hc : c ≤ 100000) (hm : m ≤ 1000) :
    Calls Tryz.prog 87 #[pp b, .int .i64 (c : Int), .int .i64 (m : Int)] w (RP StrAt (fun _ => k) w b n o (Px.declR c m ts)) := by
  unfold Px.declR
  by_cases hy : Px.isName ts = true
  · rw [if_pos hy]
    by_cases hl : c < m
    · rw [if_pos hl]
      exact (declared_yes w b n o k ts h hy c m hl hm).mono fun e w' ⟨h1, h2, h3⟩ => ⟨_, h1, rfl, h2, h3⟩
    · rw [if_neg hl]
      exact (declared_many w b n o k ts h hy c m (by omega) hc).mono fun e w' he => rp_stay h 53 e w' he
  · rw [if_neg hy]
    exact (declared_no w b n o k ts h (by simpa using hy) c m).mono fun e w' he => rp_stay h 51 e w' he
set_option maxHeartbeats 2000000 in
set_option maxRecDepth 100000 in
theorem param_yes (w : World) (b n o k : Nat) (ts : List Tok) (f : Nat) (h : PAt w b n ts o k) (ho2 : o ≤ 1000) (hf : 4 * ts.length + 6 ≤ f) (c : Nat) (hcc : c ≤ 100000) (hy : Px.sees ts [42] = true) :
    Calls Tryz.prog 79 #[pp b, .int .i64 (c : Int)] w (RP VarAt (fun _ => k) w b n o ((Px.declR c 6 ts.tail).bind fun s r => .ok (s, true) r)) := by
  obtain ⟨R, hR⟩ : ∃ R, R = ((Px.declR c 6 ts.tail).bind fun s r => .ok (s, true) r) := ⟨_, rfl⟩
  rw [← hR]
  have HR := Lib.hid hR
  have HF := Lib.hid hf
  have H0 := Lib.hid h
  have HK0 := Lib.hid (Keeps.refl [b] w)
  have hbl := h.lt
  have HBL := Lib.hid hbl
  have hmf : ∀ (fn : Fn) (first cap : Array Value) (w : World), (Instr.makeFunc fn first cap).run Tryz.prog w = .ok (.func fn first cap) w := fun _ _ _ _ => rfl
  have H0 := Lib.hid h
  have HK0 := Lib.hid (Keeps.refl [b] w)
  have HB0 := Lib.hid (show (w.alloc (.cells #[.string .empty, .bool false] 123)).heap[w.heap.size]? = some (.cells #[.string .empty, .bool false] 123 (0, 0)) from heap_alloc_new _ _)
  have H0 := Lib.hid (H0.out.keep ((Keeps.refl [] _).alloc (.cells #[.string .empty, .bool false] 123)))
  have HK0 := Lib.hid (HK0.out.alloc (.cells #[.string .empty, .bool false] 123))
  have HC := Lib.hid hcc
  have HP0 := Lib.hid (fun w' (h' : PAt w' b n ts o k) => passes_yes w' b n o k ts h' [42] (by simp) hy)
  have HLT := Lib.hid (show ts.tail.length < ts.length by have := Px.sees_len (by simp) hy; simp; omega)
  clear h hf hR hbl hcc hy
  go_enter Tryz.func79, Tryz.ntmps79
  go_wp2_with fail
  refine (HP0.out _ H0.out).mono ?_
  rintro e w0 ⟨rfl, h1, h2⟩
  have H0 := Lib.hid h1
  have HK0 := Lib.hid (HK0.out.trans h2 (fun _ h _ => h))
  have HB0 := Lib.hid (block_keep HB0.out h2 (by have := HBL.out; simp; omega))
  clear h1 h2
  have HC0 := Lib.hid (fun w' (h' : PAt w' b n (ts.tail) o k) => decl_rp w' b n o k (ts.tail) h' c 6 (by have := HC.out; omega) (by omega))
  have hlen := fun a r (h : Px.declR c 6 (ts.tail) = .ok a r) => Px.declR_len h
  have hR := HR.out
  obtain ⟨rr, hrr⟩ : ∃ x, x = Px.declR c 6 (ts.tail) := ⟨_, rfl⟩
  rw [← hrr] at HC0 hlen hR
  have HR := Lib.hid hR
  have HLEN := Lib.hid hlen
  clear hR hlen hrr
  go_wp2_with fail
  refine (HC0.out _ H0.out).mono ?_
  intro e w1 hr
  cases rr with
  | err z r =>
    obtain ⟨rfl, h4, h5⟩ := hr
    have H4 := Lib.hid h4
    have H5 := Lib.hid (HK0.out.trans h5 (fun _ h _ => h))
    clear h4 h5
    go_wp2
    rw [HR.out]
    exact ⟨rfl, rfl, H4.out, H5.out⟩
  | ok a1 r1 =>
    obtain ⟨v1, rfl, h3, h4, h5⟩ := hr
    have HL1 := Lib.hid (HLEN.out a1 r1 rfl)
    have hR := HR.out
    simp only [Px.bind_ok] at hR
    have HR := Lib.hid hR
    clear hR
    have HB0Q := HB0
    obtain rfl : v1 = .string (strO a1) := h3
    have HW1 := Lib.hid h4
    have HKW1 := Lib.hid (HK0.out.trans h5 (fun _ h _ => h))
    have HSTEP1 := Lib.hid h5
    have HB0 := Lib.hid (block_keep HB0.out h5 (by have := HBL.out; simp; omega))
    clear h4 h5
    have hrow := HB0.out
    have f0_0 := row_free hrow 0
    have c0_0 := row_cell hrow 0
    have f0_1 := row_free hrow 1
    have c0_1 := row_cell hrow 1
    simp only [List.getElem?_toArray, List.getElem?_cons_zero, List.getElem?_cons_succ] at c0_0 c0_1
    clear hrow
    go_wp2_with fail
    refine bodyPost_ret (v := .agg #[.string (strO a1), .bool true]) (by simp [results, Tryz.results79, go_sem, c0_0, c0_1]) rfl ?_
    refine setsEnd (S := [w.heap.size]) (w := w1) ?_ ?_
    · repeat (refine Keeps.setCell ?_ (by simp) _)
      exact Keeps.refl _ _
    · intro W hk
      rw [HR.out]
      exact ⟨_, rfl, rfl, HW1.out.keepHi hk (by have := HBL.out; simpa using this), HKW1.out.hi hk (by simp)⟩
set_option maxHeartbeats 2000000 in
set_option maxRecDepth 100000 in
theorem param_no (w : World) (b n o k : Nat) (ts : List Tok) (f : Nat) (h : PAt w b n ts o k) (ho2 : o ≤ 1000) (hf : 4 * ts.length + 6 ≤ f) (c : Nat) (hcc : c ≤ 100000) (hy : Px.sees ts [42] = false) :
    Calls Tryz.prog 79 #[pp b, .int .i64 (c : Int)] w (RP VarAt (fun _ => k) w b n o ((Px.declR c 6 ts).bind fun s r => .ok (s, false) r)) := by
  obtain ⟨R, hR⟩ : ∃ R, R = ((Px.declR c 6 ts).bind fun s r => .ok (s, false) r) := ⟨_, rfl⟩
  rw [← hR]
  have HR := Lib.hid hR
  have HF := Lib.hid hf
  have H0 := Lib.hid h
  have HK0 := Lib.hid (Keeps.refl [b] w)
  have hbl := h.lt
  have HBL := Lib.hid hbl
  have hmf : ∀ (fn : Fn) (first cap : Array Value) (w : World), (Instr.makeFunc fn first cap).run Tryz.prog w = .ok (.func fn first cap) w := fun _ _ _ _ => rfl
  have H0 := Lib.hid h
  have HK0 := Lib.hid (Keeps.refl [b] w)
  have HB0 := Lib.hid (show (w.alloc (.cells #[.string .empty, .bool false] 123)).heap[w.heap.size]? = some (.cells #[.string .empty, .bool false] 123 (0, 0)) from heap_alloc_new _ _)
  have H0 := Lib.hid (H0.out.keep ((Keeps.refl [] _).alloc (.cells #[.string .empty, .bool false] 123)))
  have HK0 := Lib.hid (HK0.out.alloc (.cells #[.string .empty, .bool false] 123))
  have HC := Lib.hid hcc
  have HP0 := Lib.hid (fun w' (h' : PAt w' b n ts o k) => passes_no w' b n o k ts h' [42] hy)
  clear h hf hR hbl hcc hy
  go_enter Tryz.func79, Tryz.ntmps79
  go_wp2_with fail
  refine (HP0.out _ H0.out).mono ?_
  rintro e w' ⟨rfl, rfl⟩
  have HC0 := Lib.hid (fun w' (h' : PAt w' b n (ts) o k) => decl_rp w' b n o k (ts) h' c 6 (by have := HC.out; omega) (by omega))
  have hlen := fun a r (h : Px.declR c 6 ts = .ok a r) => Px.declR_len h
  have hR := HR.out
  obtain ⟨rr, hrr⟩ : ∃ x, x = Px.declR c 6 ts := ⟨_, rfl⟩
  rw [← hrr] at HC0 hlen hR
  have HR := Lib.hid hR
  have HLEN := Lib.hid hlen
  clear hR hlen hrr
  go_wp2_with fail
  refine (HC0.out _ H0.out).mono ?_
  intro e w1 hr
  cases rr with
  | err z r =>
    obtain ⟨rfl, h4, h5⟩ := hr
    have H4 := Lib.hid h4
    have H5 := Lib.hid (HK0.out.trans h5 (fun _ h _ => h))
    clear h4 h5
    go_wp2
    rw [HR.out]
    exact ⟨rfl, rfl, H4.out, H5.out⟩
  | ok a1 r1 =>
    obtain ⟨v1, rfl, h3, h4, h5⟩ := hr
    have HL1 := Lib.hid (HLEN.out a1 r1 rfl)
    have hR := HR.out
    simp only [Px.bind_ok] at hR
    have HR := Lib.hid hR
    clear hR
    have HB0Q := HB0
    obtain rfl : v1 = .string (strO a1) := h3
    have HW1 := Lib.hid h4
    have HKW1 := Lib.hid (HK0.out.trans h5 (fun _ h _ => h))
    have HSTEP1 := Lib.hid h5
    have HB0 := Lib.hid (block_keep HB0.out h5 (by have := HBL.out; simp; omega))
    clear h4 h5
    have hrow := HB0.out
    have f0_0 := row_free hrow 0
    have c0_0 := row_cell hrow 0
    have f0_1 := row_free hrow 1
    have c0_1 := row_cell hrow 1
    simp only [List.getElem?_toArray, List.getElem?_cons_zero, List.getElem?_cons_succ] at c0_0 c0_1
    clear hrow
    go_wp2_with fail
    refine bodyPost_ret (v := .agg #[.string (strO a1), .bool false]) (by simp [results, Tryz.results79, go_sem, c0_0, c0_1]) rfl ?_
    refine setsEnd (S := [w.heap.size]) (w := w1) ?_ ?_
    · repeat (refine Keeps.setCell ?_ (by simp) _)
      exact Keeps.refl _ _
    · intro W hk
      rw [HR.out]
      exact ⟨_, rfl, rfl, HW1.out.keepHi hk (by have := HBL.out; simpa using this), HKW1.out.hi hk (by simp)⟩
theorem param_any (w : World) (b n o k : Nat) (ts : List Tok) (h : PAt w b n ts o k) (ho2 : o ≤ 1000) (c : Nat) (hc : c ≤ 100000) :
    Calls Tryz.prog 79 #[pp b, .int .i64 (c : Int)] w (RP VarAt (fun _ => k) w b n o (Px.param c ts)) := by
  unfold Px.param
  by_cases hy : Px.sees ts [42] = true
  · rw [if_pos hy]; exact param_yes w b n o k ts (4 * ts.length + 6) h ho2 (Nat.le_refl _) c hc hy
  · rw [if_neg hy]; exact param_no w b n o k ts (4 * ts.length + 6) h ho2 (Nat.le_refl _) c hc (by simpa using hy)
set_option maxHeartbeats 4000000 in
set_option maxRecDepth 100000 in
theorem params_any (w : World) (b n o k : Nat) (ts : List Tok) (f : Nat) (h : PAt w b n ts o k) (ho2 : o ≤ 1000) (hf : 4 * ts.length + 6 ≤ f) :
    Calls Tryz.prog 78 #[pp b, .func (.func 79) #[pp b] #[]] w (RP VarsAt (fun _ => k) w b n o (Px.params f ts)) := by
  obtain ⟨R, hR⟩ : ∃ R, R = Px.params f ts := ⟨_, rfl⟩
  rw [← hR]
  unfold Px.params Px.want at hR
  have HF := Lib.hid hf
  have HBL := Lib.hid h.lt
  have HLN := Lib.hid h.1.len
  have HC := Lib.hid (pass_rp w b n o k ts h [40] (by simp))
  have hlen := fun a r (h : Px.passR [40] ts = .ok a r) => Px.passR_len (by simp) h
  obtain ⟨rr, hrr⟩ : ∃ x, x = Px.passR [40] ts := ⟨_, rfl⟩
  rw [← hrr] at HC hlen hR
  have HR := Lib.hid hR
  have HLEN := Lib.hid hlen
  obtain ⟨iP, hP, hP0, hP1, hP2⟩ := info_parts infoVar
  clear hR hlen hrr h hf
  go_enter Tryz.func78, Tryz.ntmps78
  go_wp2_with fail
  refine (HC.out).mono ?_
  intro e w1 hr
  cases rr with
  | err z r =>
    obtain ⟨rfl, h4, h5⟩ := hr
    have H4 := Lib.hid h4
    have H5 := Lib.hid h5
    clear h4 h5
    go_wp2
    rw [HR.out]
    exact ⟨rfl, rfl, H4.out, H5.out⟩
  | ok a1 r1 =>
    obtain ⟨v1, rfl, h3, h4, h5⟩ := hr
    obtain rfl : v1 = .tuple #[] := h3
    have HL1 := Lib.hid (HLEN.out a1 r1 rfl)
    have hR := HR.out
    simp only [Px.bind_ok] at hR
    have HR := Lib.hid hR
    have HW1 := Lib.hid h4
    have HK1 := Lib.hid h5
    clear hR h4 h5
    go_wp2_with fail
    go_loopw [5] (fun lv wr => ∃ (g : Nat) (l : List Vr) (r : List Tok), r.length + 1 ≤ g ∧ r.length < ts.length ∧ l.length + r.length ≤ 5000 ∧ wr.ownsRow w.heap.size 123 2 lv l.length (varCells l) ∧ PAt wr b n r o k ∧ Keeps [b] w wr ∧ Px.paramsL g l r = R) (fun _ wr => leftOf wr b)
    case atStart => exact ⟨f, [], r1, by have := HF.out; have := HL1.out; omega, HL1.out, by have := HW1.out.1.len; simpa using this, World.ownsRow_nil _ _ _ _, HW1.out, HK1.out, HR.out.symm⟩
    case round =>
      obtain ⟨g, l, r, hg, hrl, hll, hown, hp, hk, hd⟩ := hrel
      match g, hg with
      | g + 1, hg =>
      have HG := Lib.hid hg
      have HRL := Lib.hid hrl
      have HLL := Lib.hid hll
      have HOWN := Lib.hid hown
      have HP := Lib.hid hp
      have HK := Lib.hid hk
      obtain ⟨A, c, rfl⟩ := row_slice hown
      unfold Px.paramsL at hd
      clear hg hrl hll hown hp hk
      by_cases hs : Px.sees r [41] = true
      · rw [if_pos hs] at hd
        have HD := Lib.hid hd
        have HS := Lib.hid (fun w' (h' : PAt w' b n r o k) => sees_any w' b n o k r h' [41])
        rw [hs] at HS
        have HY := Lib.hid (fun w' (h' : PAt w' b n r o k) => pass_yes w' b n o k r h' [41] (by simp) hs)
        clear hs hd
        go_wp2_with fail
        refine (HS.out _ HP.out).mono ?_
        rintro e w' ⟨rfl, rfl⟩
        go_wp2_with fail
        refine (HY.out _ HP.out).mono ?_
        rintro e w3 ⟨rfl, h6, h7⟩
        have H6 := Lib.hid h6
        have H7 := Lib.hid h7
        clear h6 h7
        go_wp2_with fail
        go_ret
        rw [← HD.out]
        have hbl := HBL.out
        exact ⟨_, rfl, owned_mono (owned_keep HOWN.out H7.out (fun g hg hm => by have := (rowOf HOWN.out hg).1; simp at hm; omega)) (by omega), H6.out, HK.out.trans H7.out (fun _ h _ => h)⟩
      · have hs' : Px.sees r [41] = false := by simpa using hs
        rw [if_neg hs] at hd
        have HS := Lib.hid (fun w' (h' : PAt w' b n r o k) => sees_any w' b n o k r h' [41])
        rw [hs'] at HS
        clear hs hs'
        by_cases hl0 : l.length = 0
        · rw [if_pos hl0] at hd
          obtain rfl : l = [] := List.eq_nil_of_length_eq_zero hl0
          simp only [List.length_nil] at hd
          have HD := Lib.hid hd
          clear hd hl0
          have HU := Lib.hid (fun w' (h' : PAt w' b n (r) o k) => param_any w' b n o k (r) h' ho2 0 (by omega))
          have hlen := fun aa qq (h : Px.param 0 (r) = .ok aa qq) => Px.param_len h
          have hR := HD.out
          obtain ⟨rr, hrr⟩ : ∃ x, x = Px.param 0 (r) := ⟨_, rfl⟩
          rw [← hrr] at HU hlen hR
          have HD := Lib.hid hR
          have HLEN := Lib.hid hlen
          clear hR hlen hrr
          go_wp2_with fail
          refine (HS.out _ HP.out).mono ?_
          rintro e w' ⟨rfl, rfl⟩
          go_wp2_with fail
          refine (HU.out _ HP.out).mono ?_
          intro e w4 hr
          cases rr with
          | err z r =>
            obtain ⟨rfl, h4, h5⟩ := hr
            have H4 := Lib.hid h4
            have H5 := Lib.hid (HK.out.trans h5 (fun _ h _ => h))
            clear h4 h5
            go_wp2
            rw [← HD.out]
            exact ⟨rfl, rfl, H4.out, H5.out⟩
          | ok e1 r2 =>
            obtain ⟨_, rfl, rfl, h4, h5⟩ := hr
            have HP4 := Lib.hid h4
            have HL4 := Lib.hid (HLEN.out e1 r2 rfl)
            have HK4 := Lib.hid (HK.out.trans h5 (fun _ h _ => h))
            have HOWN4 := Lib.hid (owned_keep HOWN.out h5 (fun g hg hm => by have := (rowOf HOWN.out hg).1; have := HBL.out; simp at hm; omega))
            have hR := HD.out
            simp only [Px.bind_ok] at hR
            have HD := Lib.hid hR
            have hl5 : 0 ≤ 100000 := by omega
            have hwsz : w.heap.size ≤ w4.heap.size := HK4.out.size
            clear hR h4 h5
            go_wp2_with (at_builtin; refine wp_app rfl _ _ 23 123 rfl iP (.agg #[.string .empty, .bool false]) 2 24 Tryz.underlying23 hP hP0 hP1 hP2 rfl (by decide) (by decide) (.slice A 0 c) 0 w.heap.size (varCells []) rfl HOWN4.out 1 [.string (strO e1.1), .bool e1.2] rfl rfl ?qa1 hl5 hwsz ?_)
            case qa1 => intro u hu; simp at hu; rcases hu with rfl | rfl <;> rfl
            intro v' w5 hown' hk5 _ hsz5
            have HP5 := Lib.hid (HP4.out.keepHi hk5 (fun y hy => by have := (rowOf HOWN4.out (by simpa using hy)).1; have := HBL.out; omega))
            have HK5 := Lib.hid (HK4.out.hi hk5 (fun y hy => (rowOf HOWN4.out (by simpa using hy)).1))
            have hown6 : w5.ownsRow w.heap.size 123 2 v' (([] : List Vr) ++ [e1]).length (varCells (([] : List Vr) ++ [e1])) := by
              rw [varCells_snoc, List.length_append]
              exact hown'
            have HOWN6 := Lib.hid hown6
            clear hown' hk5 hown6 hl5 hwsz
            go_wp2_with fail
            go_roundw
            · exact ⟨g, ([] : List Vr) ++ [e1], r2, by have := HL4.out; have := HG.out;  omega, by have := HL4.out; have := HRL.out;  omega, by have := HL4.out; have := HLL.out; simp at this ⊢; omega, HOWN6.out, HP5.out, HK5.out, HD.out⟩
            · rw [HP5.out.leftOf, HP.out.leftOf]
              have := HL4.out;  omega
        · rw [if_neg hl0] at hd
          have hc0 : decide ((0 : Int) < ((l.length : Nat) : Int)) = true := decide_eq_true (by omega)
          have HC2 := Lib.hid (fun w' (h' : PAt w' b n r o k) => pass_rp w' b n o k r h' [44] (by simp))
          have hlen := fun a r3 (h : Px.passR [44] r = .ok a r3) => Px.passR_len (by simp) h
          obtain ⟨rr0, hrr⟩ : ∃ x, x = Px.passR [44] r := ⟨_, rfl⟩
          unfold Px.want at hd
          rw [← hrr] at HC2 hlen hd
          have HD := Lib.hid hd
          have Hl.length0 := Lib.hid hlen
          clear hd hlen hrr
          go_wp2_with fail
          refine (HS.out _ HP.out).mono ?_
          rintro e w' ⟨rfl, rfl⟩
          go_wp2_with fail
          refine (HC2.out _ HP.out).mono ?_
          intro e w3 hr
          cases rr0 with
          | err z r =>
            obtain ⟨rfl, h4, h5⟩ := hr
            have H4 := Lib.hid h4
            have H5 := Lib.hid (HK.out.trans h5 (fun _ h _ => h))
            clear h4 h5
            go_wp2
            rw [← HD.out]
            exact ⟨rfl, rfl, H4.out, H5.out⟩
          | ok a3 r3 =>
            obtain ⟨v3, rfl, h3, h4, h5⟩ := hr
            obtain rfl : v3 = .tuple #[] := h3
            have HL3 := Lib.hid (Hl.length0.out a3 r3 rfl)
            have hR := HD.out
            simp only [Px.bind_ok] at hR
            have HD := Lib.hid hR
            have HP3 := Lib.hid h4
            have HK3 := Lib.hid (HK.out.trans h5 (fun _ h _ => h))
            have HOWN3 := Lib.hid (owned_keep HOWN.out h5 (fun g hg hm => by have := (rowOf HOWN.out hg).1; have := HBL.out; simp at hm; omega))
            clear hR h4 h5
            have HU := Lib.hid (fun w' (h' : PAt w' b n (r3) o k) => param_any w' b n o k (r3) h' ho2 l.length (by have := HLL.out; omega))
            have hlen := fun aa qq (h : Px.param l.length (r3) = .ok aa qq) => Px.param_len h
            have hR := HD.out
            obtain ⟨rr, hrr⟩ : ∃ x, x = Px.param l.length (r3) := ⟨_, rfl⟩
            rw [← hrr] at HU hlen hR
            have HD := Lib.hid hR
            have Hl.length := Lib.hid hlen
            clear hR hlen hrr
            go_wp2_with fail
            refine (HU.out _ HP3.out).mono ?_
            intro e w4 hr
            cases rr with
            | err z r =>
              obtain ⟨rfl, h4, h5⟩ := hr
              have H4 := Lib.hid h4
              have H5 := Lib.hid (HK3.out.trans h5 (fun _ h _ => h))
              clear h4 h5
              go_wp2
              rw [← HD.out]
              exact ⟨rfl, rfl, H4.out, H5.out⟩
            | ok e1 r2 =>
              obtain ⟨_, rfl, rfl, h4, h5⟩ := hr
              have HP4 := Lib.hid h4
              have HL4 := Lib.hid (Hl.length.out e1 r2 rfl)
              have HK4 := Lib.hid (HK3.out.trans h5 (fun _ h _ => h))
              have HOWN4 := Lib.hid (owned_keep HOWN3.out h5 (fun g hg hm => by have := (rowOf HOWN3.out hg).1; have := HBL.out; simp at hm; omega))
              have hR := HD.out
              simp only [Px.bind_ok] at hR
              have HD := Lib.hid hR
              have hl5 : l.length ≤ 100000 := by have := HLL.out; omega
              have hwsz : w.heap.size ≤ w4.heap.size := HK4.out.size
              clear hR h4 h5
              go_wp2_with (at_builtin; refine wp_app rfl _ _ 23 123 rfl iP (.agg #[.string .empty, .bool false]) 2 24 Tryz.underlying23 hP hP0 hP1 hP2 rfl (by decide) (by decide) (.slice A l.length c) l.length w.heap.size (varCells l) rfl HOWN4.out 1 [.string (strO e1.1), .bool e1.2] rfl rfl ?qa1 hl5 hwsz ?_)
              case qa1 => intro u hu; simp at hu; rcases hu with rfl | rfl <;> rfl
              intro v' w5 hown' hk5 _ hsz5
              have HP5 := Lib.hid (HP4.out.keepHi hk5 (fun y hy => by have := (rowOf HOWN4.out (by simpa using hy)).1; have := HBL.out; omega))
              have HK5 := Lib.hid (HK4.out.hi hk5 (fun y hy => (rowOf HOWN4.out (by simpa using hy)).1))
              have hown6 : w5.ownsRow w.heap.size 123 2 v' (l ++ [e1]).length (varCells (l ++ [e1])) := by
                rw [varCells_snoc, List.length_append]
                exact hown'
              have HOWN6 := Lib.hid hown6
              clear hown' hk5 hown6 hl5 hwsz
              go_wp2_with fail
              go_roundw
              · exact ⟨g, l ++ [e1], r2, by have := HL4.out; have := HG.out; have := HL3.out; omega, by have := HL4.out; have := HRL.out; have := HL3.out; omega, by have := HL4.out; have := HLL.out; have := HL3.out; simp; omega, HOWN6.out, HP5.out, HK5.out, HD.out⟩
              · rw [HP5.out.leftOf, HP.out.leftOf]
                have := HL4.out; have := HL3.out; omega
end Go.Proofs.YtbikifibfaaggaaGreatDoor
