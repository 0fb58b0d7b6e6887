/- Merged: SMath SBase SRec SRecs SMap SGet SShelf SChange SLog SApply SPair -/
import Derived.Test.YtbanpdeganlndaaGreatDoorQ0
import Derived.Lib.Hide
import Derived.Test.YtbanpdeganlndaaGreatDoorQ1
import Derived.Test.YtbanpdeganlndaaGreatDoorQ7
import Derived.Test.YtbanpdeganlndaaGreatDoorQ3
import Derived.Lib.Strings
import Derived.Lib.Slices
import Derived.Lib.Walk
import Derived.Shelf.SortM.Plain
import Derived.Shelf.SortM.SortNone
import Derived.Shelf.SlMaps.Clone
import Derived.Shelf.Strconv.Clone
import Derived.Ground.NamesProg
import Derived.Ground.SlgmProg
import Derived.Ground.SlmcProg
import Derived.Test.YtbanpdeganlndaaGreatDoorProg
namespace Go.Proofs.YtbanpdeganlndaaGreatDoor
namespace St

abbrev Tx := List UInt8
abbrev As := List (Tx × Tx)
/-- A change of one key. -/
structure Ch where
  key : Tx
  val : Tx
  gone : Bool
def del (l : As) (k : Tx) : As := l.filter fun p => decide (p.1 ≠ k)
def put (l : As) (k v : Tx) : As := (k, v) :: del l k
def look (l : As) (k : Tx) : Option Tx := (l.find? fun p => decide (p.1 = k)).map (·.2)
def app (l : As) (c : Ch) : As := if c.gone then del l c.key else put l c.key c.val
def apps (l : As) (cs : List Ch) : As := cs.foldl app l
def Keyed (l : As) : Prop := (l.map (·.1)).Nodup
def size (l : As) : Nat := (l.map fun p => p.1.length + p.2.length).sum

theorem Keyed.nodup {l : As} (h : Keyed l) : l.Nodup := by
  have h' : (l.map (·.1)).Pairwise (· ≠ ·) := h
  rw [List.pairwise_map] at h'
  exact List.Pairwise.imp (fun hne e => hne (by rw [e])) h'
theorem Keyed.inj {l : As} (h : Keyed l) {k v v' : Tx} (h1 : (k, v) ∈ l) (h2 : (k, v') ∈ l) : v = v' := by
  induction l with
  | nil => cases h1
  | cons p l ih =>
    have h' : (p.1 :: l.map (·.1)).Nodup := h
    obtain ⟨q1, q2⟩ := List.nodup_cons.1 h'
    rcases List.mem_cons.1 h1 with e1 | e1
    · rcases List.mem_cons.1 h2 with e2 | e2
      · rw [← e2] at e1; exact (Prod.mk.inj e1).2
      · exact absurd (List.mem_map.2 ⟨_, e2, by rw [← e1]⟩) q1
    · rcases List.mem_cons.1 h2 with e2 | e2
      · exact absurd (List.mem_map.2 ⟨_, e1, by rw [← e2]⟩) q1
      · exact ih q2 e1 e2
theorem look_mem {l : As} {k v : Tx} (h : look l k = some v) : (k, v) ∈ l := by
  unfold look at h
  obtain ⟨p, hp, rfl⟩ := Option.map_eq_some_iff.1 h
  have h1 := List.find?_some hp
  have h2 := List.mem_of_find?_eq_some hp
  have : p.1 = k := by simpa using h1
  rw [← this]; exact h2
theorem look_none {l : As} {k : Tx} (h : look l k = none) : ∀ p ∈ l, p.1 ≠ k := by
  unfold look at h
  rw [Option.map_eq_none_iff, List.find?_eq_none] at h
  intro p hp
  simpa using h p hp
theorem mem_look {l : As} (hk : Keyed l) {k v : Tx} (h : (k, v) ∈ l) : look l k = some v := by
  cases hl : look l k with
  | none => exact absurd rfl (look_none hl _ h)
  | some v' => rw [hk.inj (look_mem hl) h]
theorem look_iff {l : As} (hk : Keyed l) {k v : Tx} : look l k = some v ↔ (k, v) ∈ l := ⟨look_mem, mem_look hk⟩
theorem keyed_del {l : As} (h : Keyed l) (k : Tx) : Keyed (del l k) := by
  unfold Keyed del
  exact List.Nodup.sublist (List.filter_sublist.map _) h
theorem mem_del {l : As} {k : Tx} {p : Tx × Tx} : p ∈ del l k ↔ p ∈ l ∧ p.1 ≠ k := by simp [del, List.mem_filter]
theorem keyed_put {l : As} (h : Keyed l) (k v : Tx) : Keyed (put l k v) := by
  have : (k :: (del l k).map (·.1)).Nodup := List.nodup_cons.2 ⟨fun hm => by
    obtain ⟨p, hp, e⟩ := List.mem_map.1 hm
    exact (mem_del.1 hp).2 e, keyed_del h k⟩
  exact this
theorem keyed_app {l : As} (h : Keyed l) (c : Ch) : Keyed (app l c) := by
  unfold app; split
  · exact keyed_del h _
  · exact keyed_put h _ _
theorem keyed_apps {l : As} (h : Keyed l) (cs : List Ch) : Keyed (apps l cs) := by
  induction cs generalizing l with
  | nil => exact h
  | cons c cs ih => exact ih (keyed_app h c)
theorem keyed_nil : Keyed [] := List.nodup_nil
theorem apps_append (l : As) (a b : List Ch) : apps l (a ++ b) = apps (apps l a) b := List.foldl_append
theorem apps_snoc (l : As) (a : List Ch) (c : Ch) : apps l (a ++ [c]) = app (apps l a) c := by rw [apps_append]; rfl
theorem keyed_perm {l l' : As} (h : Keyed l) (p : l.Perm l') : Keyed l' := by
  have q : (l.map (·.1)).Perm (l'.map (·.1)) := p.map _
  exact (List.Perm.nodup_iff q).1 h
theorem del_perm {l l' : As} (p : l.Perm l') (k : Tx) : (del l k).Perm (del l' k) := p.filter _
theorem app_perm {l l' : As} (p : l.Perm l') (c : Ch) : (app l c).Perm (app l' c) := by
  unfold app; split
  · exact del_perm p _
  · exact (del_perm p _).cons _
theorem apps_perm {l l' : As} (p : l.Perm l') (cs : List Ch) : (apps l cs).Perm (apps l' cs) := by
  induction cs generalizing l l' with
  | nil => exact p
  | cons c cs ih => exact ih (app_perm p c)
theorem look_perm {l l' : As} (h : Keyed l) (p : l.Perm l') (k : Tx) : look l k = look l' k := by
  cases hl : look l k with
  | none =>
    cases hl' : look l' k with
    | none => rfl
    | some v => exact absurd rfl (look_none hl _ (p.mem_iff.2 (look_mem hl')))
  | some v => exact (mem_look (keyed_perm h p) (p.mem_iff.1 (look_mem hl))).symm
theorem perm_of_look {l l' : As} (h : Keyed l) (h' : Keyed l') (e : ∀ k, look l k = look l' k) : l.Perm l' :=
  (List.perm_ext_iff_of_nodup h.nodup h'.nodup).2 fun p => by rw [show p = (p.1, p.2) from rfl, ← look_iff h, ← look_iff h', e]
theorem size_perm {l l' : As} (p : l.Perm l') : size l = size l' := (p.map _).sum_nat
/-! ### Keys of a set -/
def found (K : List Tx) (l : As) : As := K.filterMap fun k => (look l k).map fun v => (k, v)
theorem mem_found {K : List Tx} {l : As} {p : Tx × Tx} : p ∈ found K l ↔ p.1 ∈ K ∧ look l p.1 = some p.2 := by
  unfold found
  rw [List.mem_filterMap]
  constructor
  · rintro ⟨k, hk, h⟩
    obtain ⟨v, hv, rfl⟩ := Option.map_eq_some_iff.1 h
    exact ⟨hk, hv⟩
  · rintro ⟨h1, h2⟩
    exact ⟨p.1, h1, by rw [h2]; rfl⟩
theorem found_nodup {K : List Tx} (hK : K.Nodup) (l : As) : (found K l).Nodup := by
  have : (found K l).Pairwise fun p q => p.1 ≠ q.1 := by
    unfold found
    rw [List.pairwise_filterMap]
    refine List.Pairwise.imp ?_ hK
    intro a b hne p hp q hq
    obtain ⟨v, _, rfl⟩ := Option.map_eq_some_iff.1 hp
    obtain ⟨u, _, rfl⟩ := Option.map_eq_some_iff.1 hq
    exact hne
  exact List.Pairwise.imp (fun hne e => hne (by rw [e])) this
theorem found_perm {K : List Tx} (hK : K.Nodup) {l : As} (h : Keyed l) (hs : ∀ p ∈ l, p.1 ∈ K) : (found K l).Perm l :=
  (List.perm_ext_iff_of_nodup (found_nodup hK l) h.nodup).2 fun p => by
    rw [mem_found, look_iff h]
    exact ⟨fun h => h.2, fun h => ⟨hs _ h, h⟩⟩
theorem found_snoc (K : List Tx) (k : Tx) (l : As) : found (K ++ [k]) l = found K l ++ (match look l k with | some v => [(k, v)] | none => []) := by
  unfold found
  rw [List.filterMap_append]
  congr 1
  cases h : look l k <;> simp [h]
theorem size_append (a b : As) : size (a ++ b) = size a + size b := by simp [size]
/-! ### Records -/
def tag : Tx := [112, 97, 105, 114]
def rec (c : Ch) : Tx := Cd.M.encText tag ++ (Cd.M.encText c.key ++ (Cd.M.encBool c.gone ++ (if c.gone then [] else Cd.M.encText c.val)))
def Ch.size (c : Ch) : Nat := c.key.length + c.val.length
theorem encText_len {s : Tx} (h : s.length < 18446744073709551616) : (Cd.M.encText s).length ≤ s.length + 10 := by
  unfold Cd.M.encText
  have := Cd.M.enc_len64 h
  simp; omega
theorem encText_small {s : Tx} (h : s.length < 128) : (Cd.M.encText s).length = s.length + 1 := by
  unfold Cd.M.encText
  rw [Cd.M.enc_small h]; simp
theorem encText_two {s : Tx} (h : s.length < 16384) : (Cd.M.encText s).length ≤ s.length + 2 := by
  unfold Cd.M.encText
  have := Cd.M.enc_len 1 s.length (by omega)
  simp; omega
theorem rec_len {c : Ch} (h : c.size < 18446744073709551616) : (rec c).length ≤ c.size + 26 := by
  unfold Ch.size at *
  have h1 : (Cd.M.encText tag).length = 5 := by rw [encText_small (by decide)]; rfl
  have h2 := encText_len (s := c.key) (by omega)
  have h3 := encText_len (s := c.val) (by omega)
  unfold rec
  rw [List.length_append, List.length_append, List.length_append, h1]
  have h4 : (Cd.M.encBool c.gone).length = 1 := rfl
  split
  · simp; omega
  · omega
/-- A record of a short key and value. -/
theorem rec_short {c : Ch} (hk : c.key.length < 128) (hv : c.val.length < 16384) : (rec c).length ≤ c.key.length + c.val.length + 9 := by
  have h1 : (Cd.M.encText tag).length = 5 := by rw [encText_small (by decide)]; rfl
  have h2 := encText_small hk
  have h3 := encText_two hv
  unfold rec
  rw [List.length_append, List.length_append, List.length_append, h1]
  have h4 : (Cd.M.encBool c.gone).length = 1 := rfl
  split
  · simp; omega
  · omega
def trim (c : Ch) : Ch := if c.gone then ⟨c.key, [], true⟩ else c
theorem app_trim (l : As) (c : Ch) : app l (trim c) = app l c := by
  unfold trim; split
  · rename_i h; simp [app, h]
  · rfl
theorem apps_trim (l : As) (cs : List Ch) : apps l (cs.map trim) = apps l cs := by
  induction cs generalizing l with
  | nil => rfl
  | cons c cs ih => show apps (app l (trim c)) _ = _; rw [app_trim, ih]; rfl
/-- The changes that lead to given pairs. -/
def news (l : As) : List Ch := l.map fun p => ⟨p.1, p.2, false⟩
theorem look_put (l : As) (k v : Tx) (k' : Tx) : look (put l k v) k' = if k' = k then some v else look l k' := by
  by_cases h : k' = k
  · subst h; simp [look, put]
  · rw [if_neg h]
    unfold look put
    rw [List.find?_cons_of_neg (by simpa using Ne.symm h)]
    unfold del
    rw [List.find?_filter]
    congr 2
    funext p
    by_cases hp : p.1 = k'
    · simp [hp, h]
    · simp [hp]
theorem look_del (l : As) (k k' : Tx) : look (del l k) k' = if k' = k then none else look l k' := by
  by_cases h : k' = k
  · subst h
    rw [if_pos rfl]
    unfold look del
    rw [List.find?_filter, Option.map_eq_none_iff, List.find?_eq_none]
    intro p _
    simp
  · rw [if_neg h]
    unfold look del
    rw [List.find?_filter]
    congr 2
    funext p
    by_cases hp : p.1 = k'
    · simp [hp, h]
    · simp [hp]
theorem apps_news {l m : As} (h : Keyed (m ++ l)) : (apps m (news l)).Perm (m ++ l) := by
  induction l generalizing m with
  | nil => simp [news, apps]
  | cons p l ih =>
    show (apps (put m p.1 p.2) (news l)).Perm _
    have hd : del m p.1 = m := by
      unfold del
      rw [List.filter_eq_self]
      intro q hq
      have h' : ((m ++ p :: l).map (·.1)).Nodup := h
      rw [List.map_append, List.nodup_append] at h'
      have := h'.2.2 q.1 (List.mem_map.2 ⟨q, hq, rfl⟩) p.1 (by simp)
      simpa using this
    have e : put m p.1 p.2 = p :: m := by unfold put; rw [hd]
    have hp : (p :: m ++ l).Perm (m ++ p :: l) := List.perm_middle.symm
    rw [e]
    exact (ih (keyed_perm h hp.symm)).trans hp
/-! ### The keys and values of the statements -/
def ks : List Tx := [[97], [97, 47, 98], [], [98], [97, 47], [122, 122], [97, 47, 99]]
def kst (k : Nat) : Tx := ks.getD (k % 7) []
theorem ks_nodup : ks.Nodup := by decide
theorem kst_mem (k : Nat) : kst k ∈ ks := by
  unfold kst
  have h : k % 7 < ks.length := Nat.mod_lt _ (by decide)
  rw [List.getD_eq_getElem?_getD, List.getElem?_eq_getElem h, Option.getD_some]
  exact List.getElem_mem h
theorem ks_len : ∀ k ∈ ks, k.length ≤ 3 := by decide
def vst (i n : Nat) : Tx := (List.range n).map fun j => UInt8.ofNat (13 * i + j)
theorem vst_len (i n : Nat) : (vst i n).length = n := by simp [vst]
theorem vst_snoc (i n : Nat) : vst i (n + 1) = vst i n ++ [UInt8.ofNat (13 * i + n)] := by simp [vst, List.range_succ]
theorem keys_app {K : List Tx} {l : As} (h : ∀ p ∈ l, p.1 ∈ K) {c : Ch} (hc : c.key ∈ K) : ∀ p ∈ app l c, p.1 ∈ K := by
  unfold app; split
  · exact fun p hp => h p (mem_del.1 hp).1
  · intro p hp
    rcases List.mem_cons.1 hp with rfl | hp
    · exact hc
    · exact h p (mem_del.1 hp).1
theorem keys_apps {K : List Tx} {l : As} {cs : List Ch} (h : ∀ p ∈ l, p.1 ∈ K) (hc : ∀ c ∈ cs, c.key ∈ K) : ∀ p ∈ apps l cs, p.1 ∈ K := by
  induction cs generalizing l with
  | nil => exact h
  | cons c cs ih => exact ih (keys_app h (hc c (by simp))) (fun d hd => hc d (by simp [hd]))
end St
end Go.Proofs.YtbanpdeganlndaaGreatDoor
namespace Go.Proofs.YtbanpdeganlndaaGreatDoor
open Go.RowKit
open St (Tx As Ch)

theorem Keeps.fresh {S : List Nat} {w a b : World} (h : Keeps [] w a) (k : Keeps S a b) (hs : ∀ x ∈ S, w.heap.size ≤ x) : Keeps [] w b :=
  ((h.mono (T := S) (by simp)).trans k (fun _ hi _ => hi)).mono (fun i hi hl => by have := hs i hi; omega)
def strO (l : List UInt8) : ByteArray := ⟨l.toArray⟩
theorem strO_len (k : Tx) : (strO k).size = k.length := by simp [strO, ByteArray.size]
theorem strO_list (k : Tx) : (strO k).data.toList = k := by simp [strO]
/-- A slice of pairs in block g that reads as cs. -/
def PairsIn (w : World) (g : Nat) (A : Option Addr) (cs : List Ch) : Prop :=
  cs = [] ∨ ∃ off, A = some ⟨g, off, none⟩ ∧ ∀ k (hk : k < cs.length), w.cell? ⟨g, off + k * 3, none⟩ = some (.string (strO cs[k].key)) ∧ w.cell? ⟨g, off + k * 3 + 1, none⟩ = some (.string (strO cs[k].val)) ∧ w.cell? ⟨g, off + k * 3 + 2, none⟩ = some (.bool cs[k].gone)
theorem PairsIn.keep {S : List Nat} {w w' : World} {g : Nat} {A : Option Addr} {l : List Ch} (h : PairsIn w g A l) (hk : Keeps S w w') (hn : g ∉ S) : PairsIn w' g A l := by
  rcases h with h | ⟨off, hA, hc⟩
  · exact .inl h
  · exact .inr ⟨off, hA, fun k hl => ⟨hk.cell_some (hc k hl).1 hn, hk.cell_some (hc k hl).2.1 hn, hk.cell_some (hc k hl).2.2 hn⟩⟩
theorem PairsIn.lt {w : World} {g : Nat} {A : Option Addr} {l : List Ch} (h : PairsIn w g A l) (hl : 0 < l.length) : g < w.heap.size := by
  rcases h with rfl | ⟨off, _, hc⟩
  · simp at hl
  · exact World.block_lt_of_cell? w _ (hc 0 hl).1
def Ch.agg (c : Ch) : Value := .agg #[.string (strO c.key), .string (strO c.val), .bool c.gone]

set_option maxHeartbeats 400000 in
theorem psize_any (w : World) (c : Ch) (h1 : c.key.length ≤ 70368744177664) (h2 : c.val.length ≤ 70368744177664) :
    Calls Tryz.prog 41 #[.agg #[.string (strO c.key), .string (strO c.val), .bool c.gone]] w fun e w' => e = .returned (.int .i64 ((c.size : Nat) : Int)) ∧ Keeps [] w w' := by
  have e1 := strO_len c.key
  have e2 := strO_len c.val
  have HS := Lib.hid (show (c.size : Nat) = c.key.length + c.val.length from rfl)
  obtain ⟨a, ha⟩ : ∃ a, a = strO c.key := ⟨_, rfl⟩
  obtain ⟨b, hb⟩ : ∃ b, b = strO c.val := ⟨_, rfl⟩
  rw [← ha] at e1 ⊢
  rw [← hb] at e2 ⊢
  have b1 : a.size ≤ 70368744177664 := by omega
  have b2 : b.size ≤ 70368744177664 := by omega
  have E1 := Lib.hid e1
  have E2 := Lib.hid e2
  clear e1 e2 ha hb
  go_enter Tryz.func41, Tryz.ntmps41
  go_wp2
  go_ret
  refine ⟨?_, (Keeps.refl [] w).alloc _⟩
  rw [HS.out, ← E1.out, ← E2.out]; simp
set_option maxHeartbeats 400000 in
theorem long_no (w : World) (c : Ch) (h : c.size ≤ 1048512) :
    Calls Tryz.prog 34 #[.agg #[.string (strO c.key), .string (strO c.val), .bool c.gone]] w fun e w' => e = .returned (.bool false) ∧ Keeps [] w w' := by
  have h1 : c.key.length ≤ 70368744177664 ∧ c.val.length ≤ 70368744177664 := by unfold St.Ch.size at h; omega
  have HC := Lib.hid (fun w' => psize_any w' c h1.1 h1.2)
  obtain ⟨n, hn⟩ : ∃ n, n = c.size := ⟨_, rfl⟩
  rw [← hn] at h HC
  clear h1 hn
  go_enter Tryz.func34, Tryz.ntmps34
  go_wp2_with fail
  refine (HC.out _).mono ?_
  rintro e w1 ⟨rfl, hk⟩
  have HK := Lib.hid (((Keeps.refl [] w).alloc _).trans hk (by simp))
  have hd : decide ((1048512 : Int) < (n : Int)) = false := by simp; omega
  clear hk
  go_wp2_with fail
  go_ret
  exact ⟨rfl, HK.out⟩
set_option maxHeartbeats 1000000 in
theorem index_no (w : World) (g : Nat) (A : Option Addr) (cs : List Ch) (cap : Nat) (hr : PairsIn w g A cs) (hs : ∀ c ∈ cs, c.size ≤ 1048512) (hl : cs.length ≤ 1000000) :
    Calls Tryz.prog 59 #[.slice A cs.length cap, .func (.func 34) #[] #[]] w fun e w' => e = .returned (.int .i64 (-1)) ∧ Keeps [] w w' := by
  have HR := Lib.hid hr
  have HS := Lib.hid hs
  clear hr hs
  go_enter Tryz.func59, Tryz.ntmps59
  go_wp2_with fail
  go_loopw [8] (fun i wr => ∃ k : Nat, k ≤ cs.length ∧ i = .int .i64 k ∧ Keeps [] w wr) (fun i _ => cs.length - (Go.RowKit.intOf i).toNat)
  case atStart => exact ⟨0, Nat.zero_le _, rfl, Keeps.refl _ _⟩
  case round =>
    obtain ⟨k, hk, rfl, hkp⟩ := hrel
    have HK := Lib.hid hkp
    clear hkp
    by_cases hlt : k < cs.length
    · rcases HR.out with h0 | ⟨off, rfl, hcell⟩
      · subst h0; simp at hlt
      · obtain ⟨c1, c2, c3⟩ := hcell k hlt
        have hsz := HS.out _ (List.getElem_mem hlt)
        obtain ⟨c, hc⟩ : ∃ c, c = cs[k] := ⟨_, rfl⟩
        rw [← hc] at c1 c2 c3 hsz
        have d1 := HK.out.cell_some c1 (by simp)
        have d2 := HK.out.cell_some c2 (by simp)
        have d3 := HK.out.cell_some c3 (by simp)
        have HL := Lib.hid (fun w' => long_no w' c hsz)
        clear hcell c1 c2 c3 hsz hc
        go_wp2_with fail
        refine (HL.out _).mono ?_
        rintro e w1 ⟨rfl, hk1⟩
        have HK1 := Lib.hid (HK.out.trans hk1 (by simp))
        clear hk1
        go_wp2_with fail
        go_roundw
        case rel => exact ⟨k + 1, hlt, by go_num, HK1.out⟩
        case measure => simp [Go.RowKit.intOf]; omega
    · go_wp2_with fail
      go_ret
      exact ⟨rfl, HK.out⟩
set_option maxHeartbeats 400000 in
theorem contains_no (w : World) (g : Nat) (A : Option Addr) (cs : List Ch) (cap : Nat) (hr : PairsIn w g A cs) (hs : ∀ c ∈ cs, c.size ≤ 1048512) (hl : cs.length ≤ 1000000) :
    Calls Tryz.prog 33 #[.slice A cs.length cap, .func (.func 34) #[] #[]] w fun e w' => e = .returned (.bool false) ∧ Keeps [] w w' := by
  have HC := Lib.hid (index_no w g A cs cap hr hs hl)
  clear hr hs
  go_enter Tryz.func33, Tryz.ntmps33
  go_wp2_with fail
  refine HC.out.mono ?_
  rintro e w1 ⟨rfl, hk⟩
  have HK := Lib.hid hk
  clear hk
  go_wp2_with fail
  go_ret
  exact ⟨rfl, HK.out⟩
end Go.Proofs.YtbanpdeganlndaaGreatDoor
namespace Go.Proofs.YtbanpdeganlndaaGreatDoor
open Go.RowKit
open Reg (Is Fact)
open St (Tx As Ch)

theorem newc {w : World} {cs : Array Value} {t : TypeId} (j : Nat) : (w.alloc (.cells cs t)).cell? ⟨w.heap.size, j, none⟩ = cs[j]? := cell_of_row _ _ _ _ _ _ (heap_alloc_new w _)
/-- A region with one call of the writer's, operation c: what has come up, and the world. -/
def CK (c : Nat) (wr : World) (q h : Nat) (L' : List UInt8) (L : Nat → Bool) (w : World) : Prop :=
  Keeps [q, h] wr w ∧ (L c = false → Keeps [] wr w) ∧ (L c = true → ∃ h', Cd.WrAt w q h' L' ∧ (h' = h ∨ wr.heap.size ≤ h') ∧ Keeps [q, h] wr w)
def GK (q h : Nat) (w w' : World) : Prop := Keeps [q, h] w w'
theorem CK.start {c : Nat} {wr : World} {q h n : Nat} {L' : List UInt8} (hc : c < n) : CK c wr q h L' (fun k => decide (n ≤ k)) wr.drew :=
  ⟨(Keeps.refl _ _).drew, fun _ => (Keeps.refl _ _).drew, fun hl => by simp at hl; omega⟩
theorem CK.lay {c : Nat} {wr w w' : World} {q h : Nat} {L' : List UInt8} {L : Nat → Bool} {i : Nat} (x : CK c wr q h L' L w) (hi : i ≠ c) (hk : Keeps [] w w') : CK c wr q h L' (Reg.lay L i) w' := by
  have e : Reg.lay L i c = L c := lay_ne hi
  refine ⟨x.1.trans hk (by simp), fun hl => (x.2.1 (by rw [← e]; exact hl)).trans hk (by simp), fun hl => ?_⟩
  obtain ⟨h', q1, q2, q3⟩ := x.2.2 (by rw [← e]; exact hl)
  exact ⟨h', q1.keep hk (by simp) (by simp), q2, q3.trans hk (by simp)⟩
theorem CK.done {c : Nat} {wr w w' : World} {q h h' : Nat} {L' : List UInt8} {L : Nat → Bool} (hk : Keeps [] wr w) (q1 : Cd.WrAt w' q h' L') (q2 : h' = h ∨ w.heap.size ≤ h') (q3 : Keeps [q, h] w w') : CK c wr q h L' (Reg.lay L c) w' := by
  have k : Keeps [q, h] wr w' := (hk.mono (by simp)).trans q3 (fun _ h _ => h)
  have := hk.size
  refine ⟨k, fun hl => ?_, fun _ => ⟨h', q1, by omega, k⟩⟩
  rw [lay_eq] at hl
  cases hl
theorem GK.of {w w' : World} {q h : Nat} (hk : Keeps [] w w') : GK q h w w' := hk.mono (by simp)
theorem GK.same (q h : Nat) (w : World) : GK q h w w := Keeps.refl _ _
/-- A new row of the cells cs. -/
def RowF (q h n : Nat) (cs : Array Value) : Fact := fun v w => ∃ x, v = .slice (some ⟨x, 0, none⟩) n n ∧ (∀ j u, cs[j]? = some u → w.cell? ⟨x, j, none⟩ = some u) ∧ x ≠ q ∧ x ≠ h
theorem RowF.last {q h n : Nat} {cs : Array Value} : ∀ v w w', RowF q h n cs v w → GK q h w w' → RowF q h n cs v w' :=
  fun _ _ _ ⟨x, h1, h2, h3, h4⟩ hg => ⟨x, h1, fun j u hu => Keeps.cell_some hg (h2 j u hu) (by simp; exact ⟨h3, h4⟩), h3, h4⟩
theorem RowF.new {wr w : World} {q h n : Nat} {cs : Array Value} {t : TypeId} (hl : q < wr.heap.size ∧ h < wr.heap.size) (hs : wr.heap.size ≤ w.heap.size) : RowF q h n cs (.slice (some ⟨w.heap.size, 0, none⟩) n n) (w.alloc (.cells cs t)) :=
  ⟨_, rfl, fun j u hu => by rw [newc j]; exact hu, by omega, by omega⟩
theorem RowF.cells {q h n : Nat} {cs : Array Value} {w : World} {x : Nat} {vs : List Value} (hx : ∀ j u, cs[j]? = some u → w.cell? ⟨x, j, none⟩ = some u) (he : cs = vs.toArray) : Cd.CellsIn w x (some ⟨x, 0, none⟩) vs :=
  .inr ⟨0, rfl, fun k hk => by rw [Nat.zero_add]; exact hx k _ (by rw [he]; simp [hk])⟩
theorem Is.lastK {q h : Nat} {u : Value} : ∀ v w w', Is u v w → GK q h w w' → Is u v w' := fun _ _ _ h _ => h

attribute [local go_sem] Reg.wantedV Reg.gives_value Reg.gives_skip Reg.gives_enter
set_option maxHeartbeats 4000000 in
set_option maxRecDepth 100000 in
theorem record_any (w : World) (c : Ch) (hs : c.size ≤ 1048512) :
    Calls Tryz.prog 87 #[.agg #[.string (strO c.key), .string (strO c.val), .bool c.gone]] w (CopyAt w (St.rec c)) := by
  have HRL := Lib.hid (St.rec_len (c := c) (by omega))
  have hs1 : c.key.length + c.val.length ≤ 1048512 := hs
  obtain ⟨key, val, gone⟩ := c
  simp only at hs1
  have HKL := Lib.hid (St.encText_len (s := key) (by omega))
  have HVL := Lib.hid (St.encText_len (s := val) (by omega))
  have HT := Lib.hid (show Cd.encT ⟨#[112, 97, 105, 114]⟩ = Cd.M.encText St.tag from rfl)
  have HTL := Lib.hid (show (Cd.M.encText St.tag).length = 5 by rw [St.encText_small (by decide)]; rfl)
  have HK := Lib.hid (show Cd.encT (strO key) = Cd.M.encText key by unfold Cd.encT; rw [strO_list])
  have HV := Lib.hid (show Cd.encT (strO val) = Cd.M.encText val by unfold Cd.encT; rw [strO_list])
  have HR := Lib.hid (show St.rec ⟨key, val, gone⟩ = Cd.M.encText St.tag ++ (Cd.M.encText key ++ (Cd.M.encBool gone ++ (if gone then [] else Cd.M.encText val))) from rfl)
  obtain ⟨ka, hka⟩ : ∃ a, a = strO key := ⟨_, rfl⟩
  obtain ⟨va, hva⟩ : ∃ a, a = strO val := ⟨_, rfl⟩
  rw [← hka] at HK
  rw [← hva] at HV
  rw [← hka, ← hva]
  have HS := Lib.hid hs
  have HS1 := Lib.hid hs1
  have hx0 : (w.alloc (.cells #[.string ka, .string va, .bool gone] 66)).cell? ⟨w.heap.size, 0, none⟩ = some (.string ka) := newc 0
  have hx1 : (w.alloc (.cells #[.string ka, .string va, .bool gone] 66)).cell? ⟨w.heap.size, 1, none⟩ = some (.string va) := newc 1
  have hx2 : (w.alloc (.cells #[.string ka, .string va, .bool gone] 66)).cell? ⟨w.heap.size, 2, none⟩ = some (.bool gone) := newc 2
  have HX0 := Lib.hid hx0
  have HX1 := Lib.hid hx1
  have HX2 := Lib.hid hx2
  have HKW := Lib.hid ((Keeps.refl [] w).alloc (.cells #[.string ka, .string va, .bool gone] 66))
  have HNW := Lib.hid (Cd.newWriter_any (w.alloc (.cells #[.string ka, .string va, .bool gone] 66)))
  clear hs hs1 hka hva hx0 hx1 hx2
  go_enter Tryz.func87, Tryz.ntmps87
  go_wp2_with fail
  refine HNW.out.mono ?_
  rintro e w1 ⟨p, rfl, hp, hw1, hk1⟩
  have HP : Hid (w.heap.size < p) := Lib.hid (by simp at hp; omega)
  have HW1 := Lib.hid hw1
  have HK1 := Lib.hid (HKW.out.trans hk1 (by simp))
  have HY0 := Lib.hid (hk1.cell_some HX0.out (by simp))
  have HY1 := Lib.hid (hk1.cell_some HX1.out (by simp))
  have HY2 := Lib.hid (hk1.cell_some HX2.out (by simp))
  have HB1 := Lib.hid (show w.heap.size ∉ [p, p] by have := HP.out; simp; omega)
  clear hp hw1 hk1
  have HN1 := Lib.hid (show [] ++ ([⟨#[112, 97, 105, 114]⟩, ka] : List ByteArray).flatMap Cd.encT = Cd.M.encText St.tag ++ Cd.M.encText key by
    simp only [List.flatMap_cons, List.flatMap_nil, List.append_nil, List.nil_append]; rw [HT.out, HK.out])
  obtain ⟨l1, hl1⟩ : ∃ l1, l1 = Cd.M.encText St.tag ++ Cd.M.encText key := ⟨_, rfl⟩
  rw [← hl1] at HN1
  have HL1 := Lib.hid hl1
  have hl1n : l1.length ≤ 2000000 := by rw [hl1, List.length_append, HTL.out]; have := HKL.out; have := HS1.out; omega
  clear hl1
  go_wp2_with fail
  refine Reg.wp_region_state (A := ?Aa) (CK 6 w1 p p (l1)) (GK p p)
    [Is (.pointer (some ⟨p, 0, none⟩)), Is (.pointer (some ⟨p, 0, none⟩)), Is (.pointer (some ⟨p, 0, none⟩)), Is (.pointer (some ⟨w.heap.size, 0, none⟩)), Is (.string ka), RowF p p 2 #[.string ⟨#[112, 97, 105, 114]⟩, .string ka], Is (.tuple #[])]
    (by kernel_rfl) (by kernel_rfl) rfl ?hAa ?hCa ?hoa ?hlasta ?henda
  case hAa => intro vs; simp only [Reg.fill, if_true, Nat.zero_add, Nat.reduceAdd, Act.put, List.setIfInBounds_toArray, List.set_cons_succ, List.set_cons_zero]; exact rfl
  case hCa => exact CK.start (n := 7) (by decide)
  case hlasta => repeat (first | exact trivial | refine ⟨Is.lastK, ?_⟩ | refine ⟨RowF.last, ?_⟩)
  case hoa =>
    repeat' apply And.intro
    all_goals
      first
        | exact trivial
        | (intro L vs w' hC hL hd K hK
           try simp only [Reg.Deps, Reg.at_, List.getD_cons_zero, List.getD_cons_succ, Region.binds, true_implies, Is, and_true] at hd
           have hx0' := hC.1.cell_some HY0.out HB1.out
           go_simp
           first
             | exact hK _ _ (hC.lay (by decide) (Keeps.refl _ _)) (GK.same _ _ _) rfl
             | skip)
    · exact hK _ _ (hC.lay (by decide) ((Keeps.refl _ _).alloc _)) (GK.of ((Keeps.refl _ _).alloc _)) (RowF.new HW1.out.lt hC.1.size)
    · obtain ⟨-, x, hx, hxb, hx1, hx2⟩ := hd
      rw [hx]
      have hk8 := hC.2.1 hL
      refine (Cd.text_any w' p p x [] (some ⟨x, 0, none⟩) [⟨#[112, 97, 105, 114]⟩, ka] 2 (HW1.out.keep hk8 (by simp) (by simp)) (RowF.cells (q := p) (h := p) (n := 2) hxb rfl) hx1 hx2 (by simp) (by have := HN1.out; rw [List.nil_append] at this; rw [this]; simp; omega)).mono ?_
      rintro e w'' ⟨rfl, h', q1, q2, q3⟩
      exact ⟨_, rfl, hK _ _ (CK.done hk8 (by rw [HN1.out] at q1; exact q1) q2 q3) q3 rfl⟩
  case henda =>
    intro vs w2 hC hall
    obtain ⟨g2, q1, q2, q3⟩ := hC.2.2 rfl
    have HW2 := Lib.hid q1
    have HK2 := Lib.hid (HK1.out.fresh q3 (by have := HP.out; simp; omega))
    have HZ1 := Lib.hid (q3.cell_some HY1.out HB1.out)
    have HZ2 := Lib.hid (q3.cell_some HY2.out HB1.out)
    have HG2 : Hid (w.heap.size < g2) := Lib.hid (by have := HP.out; have := HK1.out.size; have : w.heap.size < w1.heap.size := World.block_lt_of_cell? _ _ HY0.out; omega)
    have HB2 := Lib.hid (show w.heap.size ∉ [p, g2] by have := HP.out; have := HG2.out; simp; omega)
    have HN2 := Lib.hid (show l1 ++ ([gone] : List Bool).flatMap Cd.M.encBool = l1 ++ Cd.M.encBool gone by simp)
    have hl2n : (l1 ++ Cd.M.encBool gone).length ≤ 2000001 := by rw [List.length_append]; simp [Cd.M.encBool]; omega
    obtain ⟨l2, hl2⟩ : ∃ l2, l2 = l1 ++ Cd.M.encBool gone := ⟨_, rfl⟩
    rw [← hl2] at HN2 hl2n
    have HL2 := Lib.hid hl2
    clear hC hall q1 q2 q3 hl2
    go_wp2_with fail
    refine Reg.wp_region_state (A := ?Ab) (CK 6 w2 p g2 (l2)) (GK p g2)
      [Is (.pointer (some ⟨p, 0, none⟩)), Is (.pointer (some ⟨p, 0, none⟩)), Is (.pointer (some ⟨p, 0, none⟩)), Is (.pointer (some ⟨w.heap.size, 2, none⟩)), Is (.bool gone), RowF p g2 1 #[.bool gone], Is (.tuple #[])]
      (by kernel_rfl) (by kernel_rfl) rfl ?hAb ?hCb ?hob ?hlastb ?hendb
    case hAb => intro vs; simp only [Reg.fill, if_true, Nat.zero_add, Nat.reduceAdd, Act.put, List.setIfInBounds_toArray, List.set_cons_succ, List.set_cons_zero]; exact rfl
    case hCb => exact CK.start (n := 7) (by decide)
    case hlastb => repeat (first | exact trivial | refine ⟨Is.lastK, ?_⟩ | refine ⟨RowF.last, ?_⟩)
    case hob =>
      repeat' apply And.intro
      all_goals
        first
          | exact trivial
          | (intro L vs w' hC hL hd K hK
             try simp only [Reg.Deps, Reg.at_, List.getD_cons_zero, List.getD_cons_succ, Region.binds, true_implies, Is, and_true] at hd
             have hx0' := hC.1.cell_some HZ2.out HB2.out
             go_simp
             first
               | exact hK _ _ (hC.lay (by decide) (Keeps.refl _ _)) (GK.same _ _ _) rfl
               | skip)
      · exact hK _ _ (hC.lay (by decide) ((Keeps.refl _ _).alloc _)) (GK.of ((Keeps.refl _ _).alloc _)) (RowF.new HW2.out.lt hC.1.size)
      · obtain ⟨-, x, hx, hxb, hx1, hx2⟩ := hd
        rw [hx]
        have hk8 := hC.2.1 hL
        refine (Cd.bool_any w' p g2 x l1 (some ⟨x, 0, none⟩) [gone] 1 (HW2.out.keep hk8 (by simp) (by simp)) (RowF.cells (q := p) (h := g2) (n := 1) hxb rfl) hx1 hx2 (by simp; omega)).mono ?_
        rintro e w'' ⟨rfl, h', q1, q2, q3⟩
        exact ⟨_, rfl, hK _ _ (CK.done hk8 (by rw [HN2.out] at q1; exact q1) q2 q3) q3 rfl⟩
    case hendb =>
    intro vs w3 hC hall
    obtain ⟨g3, q1, q2, q3⟩ := hC.2.2 rfl
    have HW3 := Lib.hid q1
    have HK3 := Lib.hid (HK2.out.fresh q3 (by have := HP.out; have := HG2.out; simp; omega))
    have HU1 := Lib.hid (q3.cell_some HZ1.out HB2.out)
    have HU2 := q3.cell_some HZ2.out HB2.out
    have HG3 : Hid (w.heap.size < g3) := Lib.hid (by have := HG2.out; have : w.heap.size < w2.heap.size := World.block_lt_of_cell? _ _ HZ1.out; omega)
    have HB3 := Lib.hid (show w.heap.size ∉ [p, g3] by have := HP.out; have := HG3.out; simp; omega)
    clear hC hall q1 q2 q3
    cases gone with
    | true =>
      have HE := Lib.hid (show l2 = St.rec ⟨key, val, true⟩ by rw [HL2.out, HL1.out, HR.out]; simp)
      have HBY := Lib.hid (Cd.bytes_any w3 p g3 l2 HW3.out (by omega))
      go_wp2_with fail
      refine HBY.out.mono ?_
      rintro e w4 ⟨A, cap, g4, rfl, hb, hg, hc, hm, hn, hk⟩
      have HKB := Lib.hid (HK3.out.trans hk (by simp))
      have HBI := Lib.hid hb
      have HGE := Lib.hid (show w.heap.size ≤ g4 by have := HK3.out.size; omega)
      have HNN := Lib.hid hn
      clear hb hk hn hg
      go_wp2_with fail
      go_ret
      rw [← HE.out]
      exact ⟨A, cap, g4, rfl, HBI.out, HGE.out, hc, hm, HNN.out, HKB.out⟩
    | false =>
      have HN3 := Lib.hid (show l2 ++ ([va] : List ByteArray).flatMap Cd.encT = St.rec ⟨key, val, false⟩ by
        simp only [List.flatMap_cons, List.flatMap_nil, List.append_nil]
        rw [HV.out, HL2.out, HL1.out, HR.out]; simp)
      obtain ⟨l3, hl3⟩ : ∃ l3, l3 = St.rec ⟨key, val, false⟩ := ⟨_, rfl⟩
      have hl3n : l3.length ≤ 2000001 := by rw [hl3]; have := HRL.out; have := HS.out; omega
      rw [← hl3] at HN3
      have HL3 := Lib.hid hl3
      clear hl3 HRL HS HR
      go_wp2_with fail
      refine Reg.wp_region_state (A := ?Ac) (CK 6 w3 p g3 (l3)) (GK p g3)
        [Is (.pointer (some ⟨p, 0, none⟩)), Is (.pointer (some ⟨p, 0, none⟩)), Is (.pointer (some ⟨p, 0, none⟩)), Is (.pointer (some ⟨w.heap.size, 1, none⟩)), Is (.string va), RowF p g3 1 #[.string va], Is (.tuple #[])]
        (by kernel_rfl) (by kernel_rfl) rfl ?hAc ?hCc ?hoc ?hlastc ?hendc
      case hAc => intro vs; simp only [Reg.fill, if_true, Nat.zero_add, Nat.reduceAdd, Act.put, List.setIfInBounds_toArray, List.set_cons_succ, List.set_cons_zero]; exact rfl
      case hCc => exact CK.start (n := 7) (by decide)
      case hlastc => repeat (first | exact trivial | refine ⟨Is.lastK, ?_⟩ | refine ⟨RowF.last, ?_⟩)
      case hoc =>
        repeat' apply And.intro
        all_goals
          first
            | exact trivial
            | (intro L vs w' hC hL hd K hK
               try simp only [Reg.Deps, Reg.at_, List.getD_cons_zero, List.getD_cons_succ, Region.binds, true_implies, Is, and_true] at hd
               have hx0' := hC.1.cell_some HU1.out HB3.out
               go_simp
               first
                 | exact hK _ _ (hC.lay (by decide) (Keeps.refl _ _)) (GK.same _ _ _) rfl
                 | skip)
        · exact hK _ _ (hC.lay (by decide) ((Keeps.refl _ _).alloc _)) (GK.of ((Keeps.refl _ _).alloc _)) (RowF.new HW3.out.lt hC.1.size)
        · obtain ⟨-, x, hx, hxb, hx1, hx2⟩ := hd
          rw [hx]
          have hk8 := hC.2.1 hL
          refine (Cd.text_any w' p g3 x l2 (some ⟨x, 0, none⟩) [va] 1 (HW3.out.keep hk8 (by simp) (by simp)) (RowF.cells (q := p) (h := g3) (n := 1) hxb rfl) hx1 hx2 (by simp) (by have := congrArg List.length HN3.out; rw [List.length_append] at this; omega)).mono ?_
          rintro e w'' ⟨rfl, h', q1, q2, q3⟩
          exact ⟨_, rfl, hK _ _ (CK.done hk8 (by rw [HN3.out] at q1; exact q1) q2 q3) q3 rfl⟩
      case hendc =>
        intro vs w4 hC hall
        obtain ⟨g4, q1, q2, q3⟩ := hC.2.2 rfl
        have HK4 := Lib.hid (HK3.out.fresh q3 (by have := HP.out; have := HG3.out; simp; omega))
        have HBY := Lib.hid (Cd.bytes_any w4 p g4 l3 q1 (by omega))
        clear hC hall q1 q2 q3
        go_wp2_with fail
        refine HBY.out.mono ?_
        rintro e w5 ⟨A, cap, g5, rfl, hb, hg, hc, hm, hn, hk⟩
        have HKB := Lib.hid (HK4.out.trans hk (by simp))
        have HBI := Lib.hid hb
        have HGE := Lib.hid (show w.heap.size ≤ g5 by have := HK4.out.size; omega)
        have HNN := Lib.hid hn
        clear hb hk hn hg
        go_wp2_with fail
        go_ret
        rw [← HL3.out]
        exact ⟨A, cap, g5, rfl, HBI.out, HGE.out, hc, hm, HNN.out, HKB.out⟩
end Go.Proofs.YtbanpdeganlndaaGreatDoor
namespace Go.Proofs.YtbanpdeganlndaaGreatDoor
open Go.RowKit
open Reg (Is Fact CB)
open St (Tx As Ch)

/-- The records that are made of pairs. -/
def RecsP (w : World) (cs : List Ch) (e : Ending) (w' : World) : Prop := ∃ v, e = .returned v ∧ RowsOwn w' w.heap.size v (cs.map St.rec) ∧ Keeps [] w w'
set_option maxRecDepth 100000 in
set_option maxHeartbeats 4000000 in
theorem records_any (w : World) (g : Nat) (A : Option Addr) (cs : List Ch) (cap : Nat) (hr : PairsIn w g A cs) (hs : ∀ c ∈ cs, c.size ≤ 1048512) (hl : cs.length ≤ 100000) :
    Calls Tryz.prog 54 #[.slice A cs.length cap] w (RecsP w cs) := by
  obtain ⟨iS, hS, hS0, hS1, hS2⟩ := info_parts infoSl
  have HB := Lib.hid hr
  have HSZ := Lib.hid hs
  clear hr hs
  go_enter Tryz.func54, Tryz.ntmps54
  go_wp2_with fail
  go_loopw [3, 8] (fun rv kv wr => ∃ k Ar cr, k ≤ cs.length ∧ kv = .int .i64 (k : Int) ∧ rv = .slice Ar ((cs.take k).map St.rec).length cr ∧ RowsOwn wr w.heap.size rv ((cs.take k).map St.rec) ∧ Keeps [] w wr) (fun _ kv _ => cs.length - (RowKit.intOf kv).toNat)
  case atStart => exact ⟨0, none, 0, by omega, rfl, by simp, RowsOwn.nil _ _, Keeps.refl _ _⟩
  case round =>
    obtain ⟨k, Ar, cr, hk, rfl, rfl, ho, hkk⟩ := hrel
    obtain ⟨W0, hW0⟩ : ∃ W0, W0 = wr := ⟨_, rfl⟩
    subst hW0
    have HO := Lib.hid ho
    have HK := Lib.hid hkk
    clear ho hkk
    by_cases hlt : k < cs.length
    · rcases HB.out with h0 | ⟨off, rfl, hcell⟩
      · subst h0; simp at hlt
      · obtain ⟨c1, c2, c3⟩ := hcell k hlt
        have hsz := HSZ.out _ (List.getElem_mem hlt)
        have HTK := Lib.hid (show (cs.take (k + 1)).map St.rec = (cs.take k).map St.rec ++ [St.rec cs[k]] by rw [List.take_succ_eq_append_getElem hlt, List.map_append]; rfl)
        obtain ⟨c, hc⟩ : ∃ c, c = cs[k] := ⟨_, rfl⟩
        rw [← hc] at c1 c2 c3 hsz HTK
        have d1 := HK.out.cell_some c1 (by simp)
        have d2 := HK.out.cell_some c2 (by simp)
        have d3 := HK.out.cell_some c3 (by simp)
        have HL := Lib.hid (fun w' => record_any w' c hsz)
        have HDL : Hid (((cs.take k).map St.rec).length = k) := Lib.hid (by simp; omega)
        obtain ⟨done, hdone⟩ : ∃ d, d = (cs.take k).map St.rec := ⟨_, rfl⟩
        rw [← hdone] at HO HTK HDL
        rw [← hdone]
        obtain ⟨b, hb⟩ : ∃ b, b = St.rec c := ⟨_, rfl⟩
        rw [← hb] at HL HTK
        have HDN := Lib.hid hdone
        clear hcell c1 c2 c3 hsz hc hdone hb
        go_wp2_with fail
        refine (HL.out _).mono ?_
        rintro e w2 ⟨Ac, cc, gc, rfl, hbi, hgc, hlc, hmc, _, hk2⟩
        have hk2' := ((Keeps.refl [] W0).alloc _).trans hk2 (by simp)
        have HK2 := Lib.hid hk2'
        have HEL := Lib.hid (show ElV w2 (fun y => w.heap.size ≤ y ∧ (Value.slice Ar done.length cr).ownBlock ≠ some y) (.slice Ac b.length cc) b from ⟨Ac, gc, cc, rfl, hbi, hlc, hmc, .inr ⟨by have := HK.out.size; simp at hgc; omega, fun e => by
              obtain ⟨xs0, h0o, _⟩ := HO.out
              have := h0o.lt _ e
              simp at hgc
              omega⟩⟩)
        have ho2 := HO.out.keep hk2' (by simp)
        obtain ⟨xs, hxo, hxe⟩ := ho2
        have HXO := Lib.hid hxo
        have HXE := Lib.hid hxe
        have hs1 := HK.out.size
        have hs2 := hk2'.size
        clear hbi hgc hlc hmc hk2 hk2' hxo hxe
        go_wp2_with (at_builtin; refine wpList_append_own_at _ rfl _ _ 49 rfl w.heap.size 62 iS (.slice none 0 0) 1 24 Tryz.underlying49 hS hS0 hS1 hS2 rfl (by decide) (.slice Ar done.length cr) done.length xs rfl (HXO.out.alloc _) ⟨w2.heap.size, 0, none⟩ 1 1 [.slice Ac b.length cc] rfl rfl ?d1 ?d2 ?d3 ?d4 ?d5 ?_)
        case d1 =>
          intro q u hj
          match q, hj with
          | 0, hj =>
            simp at hj
            subst hj
            rw [Addr.add_lit, row_cell (heap_alloc_new w2 _)]; rfl
          | q + 1, hj => simp at hj
        case d2 => intro u hu; simp at hu; rw [hu]; rfl
        case d3 => have := HDL.out; unfold maxLen; omega
        case d4 => have := HDL.out; omega
        case d5 => have := HDL.out; simp; omega
        intro v3 w3 ho3 hg3 _ hat3
        have HO3 := Lib.hid (show RowsOwn w3 w.heap.size v3 (done ++ [b]) by
          refine RowsOwn.more (w := w2.alloc (.cells #[.slice Ac b.length cc] 62)) (v := .slice Ar done.length cr) (xs := xs) (ys := [.slice Ac b.length cc]) (by simpa using HXO.out.alloc _) (fun q hq => ?_) (fun q hq => ?_) (by simpa using ho3) hg3 (by simpa using hat3)
          · obtain ⟨x, q1, q2⟩ := HXE.out q hq
            exact ⟨x, q1, q2.keep ((Keeps.refl [] _).alloc _) (by simp) (fun _ h => h)⟩
          · match q, hq with
            | 0, _ => exact ⟨_, rfl, HEL.out.keep ((Keeps.refl [] _).alloc _) (by simp) (fun _ h => h)⟩)
        have HK3 := Lib.hid (show Keeps [] w w3 from ((HK.out.trans HK2.out (by simp)).alloc _).trans (Keeps.of_grown hg3) (fun q hq hl => by
          have h9 : (Value.slice Ar done.length cr).ownBlock = some q := by
            cases hob : (Value.slice Ar done.length cr).ownBlock with
            | none => rw [hob] at hq; simp at hq
            | some r => rw [hob] at hq; simp at hq; rw [hq]
          have := HXO.out.lt q h9
          omega))
        obtain ⟨Ar3, cr3, hv3, _, _, _⟩ := HO3.out.form
        subst hv3
        clear ho3 hg3 hat3
        go_wp2_with fail
        go_roundw
        case rel => exact ⟨k + 1, Ar3, cr3, hlt, by go_num, by rw [HTK.out], by rw [HTK.out]; exact HO3.out, HK3.out⟩
        case measure => simp [RowKit.intOf]; omega
    · have HF := Lib.hid (show (cs.take k).map St.rec = cs.map St.rec by rw [List.take_of_length_le (by omega)])
      go_wp2_with fail
      go_ret
      exact ⟨_, rfl, by rw [← HF.out]; exact HO.out, HK.out⟩
end Go.Proofs.YtbanpdeganlndaaGreatDoor
namespace Go.Proofs.YtbanpdeganlndaaGreatDoor
open Go.RowKit Go.WideShapes Go.ChangeMaps
open St (Tx As)

theorem strKey : Maps.Keyed Tryz.prog 9 := Maps.Keyed.of_law (WideMaps.string_law Tryz.underlying9)
theorem strO_data (s : ByteArray) : strO s.data.toList = s := by cases s; rfl
theorem str_lit {k : Tx} (h : k.length ≤ maxLen) : keyOf Tryz.prog 9 (.string (strO k)) = some (.string k) := by
  have := WideMaps.keyOf_string_mk Tryz.underlying9 (s := strO k) (by rw [strO_len]; exact h)
  rwa [strO_list] at this
theorem lit_inj {a b : Tx} : Lit.string a = Lit.string b ↔ a = b := ⟨fun h => by injection h, fun h => by rw [h]⟩
theorem str_isKey (k : Tx) : WideAt.IsKeyLit (.string k) := trivial
/-- The entries of pairs. -/
def ents (E : Tx → Tx → Value) (l : As) : List (Lit × DataW Value) := l.map fun p => (.string p.1, .held (E p.1 p.2))
/-- A map of pairs, E says how a value lies. -/
def MapAt (w : World) (b : Nat) (E : Tx → Tx → Value) (l : As) : Prop :=
  St.Keyed l ∧ (∀ p ∈ l, p.1.length ≤ maxLen) ∧ ∃ n L, w.ownsMap Tryz.prog 9 Raw b n (.map L) ∧ L.Perm (ents E l)
theorem sameKey_str (a b : Tx) : (Lit.string a).sameKey (.string b) = decide (a = b) := by
  by_cases h : a = b
  · subst h
    rw [WideAt.sameKey_self (str_isKey _)]; simp
  · rw [Maps.sameKey_ne (fun e => h (lit_inj.1 e))]; simp [h]
theorem owns_tight {w : World} {b n : Nat} {L : List (Lit × DataW Value)} (h : w.ownsMap Tryz.prog 9 Raw b n (.map L)) : w.ownsMap Tryz.prog 9 Raw b L.length (.map L) := by
  obtain ⟨es, c, hb, F, hs, hD⟩ := h
  refine ⟨es, c, hb, F, ?_, hD⟩
  have hLe : L = (es.toList.map (Go.WideElems.rg Tryz.prog 9 Raw)).foldr DataW.insert [] := by injection hD
  rw [hLe, length_sorted]; simp
theorem find_perm {H : Type} {f : Lit × DataW H → Bool} {L M : List (Lit × DataW H)} (hp : L.Perm M) (h1 : ∀ a ∈ L, ∀ b ∈ L, f a = true → f b = true → a = b) : L.find? f = M.find? f := by
  cases hL : L.find? f with
  | none =>
    symm
    rw [List.find?_eq_none] at hL ⊢
    exact fun x hx => hL x (hp.mem_iff.2 hx)
  | some a =>
    have ha := List.mem_of_find?_eq_some hL
    have fa := List.find?_some hL
    cases hM : M.find? f with
    | none =>
      rw [List.find?_eq_none] at hM
      exact absurd fa (hM a (hp.mem_iff.1 ha))
    | some b =>
      rw [h1 a ha b (hp.mem_iff.2 (List.mem_of_find?_eq_some hM)) fa (List.find?_some hM)]
theorem ents_find {E : Tx → Tx → Value} {l : As} (k : Tx) : (ents E l).find? (fun p => p.1.sameKey (.string k)) = (St.look l k).map fun v => (.string k, .held (E k v)) := by
  unfold ents St.look
  induction l with
  | nil => rfl
  | cons p l ih =>
    rw [List.map_cons, List.find?_cons, List.find?_cons]
    simp only [sameKey_str]
    by_cases h : p.1 = k
    · subst h; simp
    · simp only [h, decide_false]; exact ih
theorem ents_one {E : Tx → Tx → Value} {l : As} (h : St.Keyed l) {k : Tx} : ∀ a ∈ ents E l, ∀ b ∈ ents E l, a.1.sameKey (.string k) = true → b.1.sameKey (.string k) = true → a = b := by
  intro a ha b hb h1 h2
  obtain ⟨p, hp, rfl⟩ := List.mem_map.1 ha
  obtain ⟨q, hq, rfl⟩ := List.mem_map.1 hb
  simp only [sameKey_str, decide_eq_true_eq] at h1 h2
  obtain ⟨p1, p2⟩ := p
  obtain ⟨q1, q2⟩ := q
  simp only at h1 h2
  subst h1 h2
  rw [h.inj hp hq]
theorem find_map {E : Tx → Tx → Value} {l : As} {L : List (Lit × DataW Value)} (h : St.Keyed l) (hp : L.Perm (ents E l)) (k : Tx) : L.find? (fun p => p.1.sameKey (.string k)) = (St.look l k).map fun v => (.string k, .held (E k v)) := by
  rw [find_perm hp (fun a ha b hb => ents_one (E := E) h a (hp.mem_iff.1 ha) b (hp.mem_iff.1 hb)), ents_find]
theorem has_map {E : Tx → Tx → Value} {l : As} {L : List (Lit × DataW Value)} (h : St.Keyed l) (hp : L.Perm (ents E l)) (k : Tx) : Maps.has (.map L) (.string k) = (St.look l k).isSome := by
  rw [Maps.has_eq]
  have := find_map h hp k
  cases hl : St.look l k with
  | none =>
    rw [hl] at this
    rw [Option.map_none, List.find?_eq_none] at this
    simpa using this
  | some v =>
    rw [hl] at this
    rw [Option.isSome_some, List.any_eq_true]
    exact ⟨_, List.mem_of_find?_eq_some this, by rw [sameKey_str]; simp⟩
theorem atKey_map {E : Tx → Tx → Value} {l : As} {L : List (Lit × DataW Value)} (h : St.Keyed l) (hp : L.Perm (ents E l)) (k : Tx) (z : DataW Value) : (DataW.map L).atKey (.string k) z = match St.look l k with | some v => .held (E k v) | none => z := by
  have := find_map h hp k
  unfold DataW.atKey
  simp only [this]
  cases St.look l k <;> rfl
theorem ents_del (E : Tx → Tx → Value) (l : As) (k : Tx) : (ents E l).filter (notKey (.string k)) = ents E (St.del l k) := by
  unfold ents St.del
  rw [List.filter_map]
  congr 1
  refine List.filter_congr fun p _ => ?_
  simp [notKey, sameKey_str]
theorem MapAt.keep {S : List Nat} {w w' : World} {b : Nat} {E : Tx → Tx → Value} {l : As} (h : MapAt w b E l) (hk : Keeps S w w') (hn : b ∉ S) : MapAt w' b E l := by
  obtain ⟨h1, h2, n, L, ⟨es, c, hb, F, hs, hD⟩, hp⟩ := h
  exact ⟨h1, h2, n, L, ⟨es, c, block_keep hb hk hn, F, hs, hD⟩, hp⟩
theorem MapAt.lt {w : World} {b : Nat} {E : Tx → Tx → Value} {l : As} (h : MapAt w b E l) : b < w.heap.size := by
  obtain ⟨_, _, n, L, ho, _⟩ := h
  exact ho.lt
theorem MapAt.perm {w : World} {b : Nat} {E : Tx → Tx → Value} {l l' : As} (h : MapAt w b E l) (p : l.Perm l') : MapAt w b E l' := by
  obtain ⟨h1, h2, n, L, ho, hp⟩ := h
  exact ⟨St.keyed_perm h1 p, fun q hq => h2 q (p.mem_iff.2 hq), n, L, ho, hp.trans (p.map _)⟩
theorem MapAt.made (w : World) (E : Tx → Tx → Value) : MapAt (w.alloc (.map #[] 0)) w.heap.size E [] :=
  ⟨St.keyed_nil, by simp, 0, [], World.ownsMap_made w _ _ _, List.Perm.refl _⟩
/-- 'v, ok := m[k]'. -/
theorem MapAt.look {w : World} {b : Nat} {E : Tx → Tx → Value} {l : As} (h : MapAt w b E l) {t e : TypeId} (ht : Tryz.prog.underlying t = some (.map 9 e)) {z : Value} (hz : (zeroValue e).run Tryz.prog w = .ok z w) {k : Tx} (hk : k.length ≤ maxLen) :
    (Instr.lookup t (.map (some b)) (.string (strO k)) true).run Tryz.prog w = .ok (.tuple #[(match St.look l k with | some v => E k v | none => z), .bool (St.look l k).isSome]) w := by
  obtain ⟨h1, h2, n, L, ho, hp⟩ := h
  obtain ⟨v, ps, hrun, hv⟩ := ho.look_ok strKey ht hz (zd := .held z) (zp := []) rfl (str_lit hk)
  rw [has_map h1 hp] at hrun
  rw [hrun]
  rw [atKey_map h1 hp] at hv
  simp only [Raw, Option.some.injEq, Prod.mk.injEq] at hv
  have := hv.1
  cases hl : St.look l k with
  | none => rw [hl] at this; rw [DataW.held.inj this]
  | some u => rw [hl] at this; rw [DataW.held.inj this]
theorem MapAt.keeps {w w' : World} {b : Nat} (h : w.mapTurned w' b) : Keeps [b] w w' := turned_keeps h
/-- 'm[k] = v'. -/
theorem MapAt.store {w : World} {b : Nat} {E : Tx → Tx → Value} {l : As} (h : MapAt w b E l) {t e : TypeId} (ht : Tryz.prog.underlying t = some (.map 9 e)) (hn : l.length < maxLen) {k v : Tx} (hk : k.length ≤ maxLen) :
    ∃ w', (Instr.mapUpdate t (.map (some b)) (.string (strO k)) (E k v)).run Tryz.prog w = .ok () w' ∧ MapAt w' b E (St.put l k v) ∧ Keeps [b] w w' := by
  obtain ⟨h1, h2, n, L, ho, hp⟩ := h
  have hL : L.length = l.length := by rw [hp.length_eq]; simp [ents]
  obtain ⟨w', hrun, ho2, ht2⟩ := (owns_tight ho).store strKey ht (by omega) (str_lit hk) (val := E k v) (d := .held (E k v)) (ps := []) rfl
  refine ⟨w', hrun, ⟨St.keyed_put h1 k v, ?_, _, _, (by rw [DataW.put_eq] at ho2; exact ho2), ?_⟩, turned_keeps ht2⟩
  · intro p hpm
    rcases List.mem_cons.1 hpm with rfl | hpm
    · exact hk
    · exact h2 p (St.mem_del.1 hpm).1
  · unfold putKey
    refine (insert_perm _ _).trans ?_
    have : (L.filter (notKey (.string k))).Perm (ents E (St.del l k)) := by rw [← ents_del]; exact hp.filter _
    exact this.cons _
/-- 'delete(m, k)'. -/
theorem MapAt.drop {w : World} {b : Nat} {E : Tx → Tx → Value} {l : As} (h : MapAt w b E l) {t e : TypeId} (ht : Tryz.prog.underlying t = some (.map 9 e)) {k : Tx} (hk : k.length ≤ maxLen) (ty : TypeId) :
    ∃ w', (Builtin.delete_ #[t, 9] ty #[.map (some b), .string (strO k)]).run Tryz.prog w = .ok (.tuple #[]) w' ∧ MapAt w' b E (St.del l k) ∧ Keeps [b] w w' := by
  obtain ⟨h1, h2, n, L, ho, hp⟩ := h
  obtain ⟨w', hrun, ho2, ht2⟩ := ho.drop strKey ht (str_lit hk) ty
  refine ⟨w', hrun, ⟨St.keyed_del h1 k, fun p hpm => h2 p (St.mem_del.1 hpm).1, _, _, (by rw [DataW.del_eq] at ho2; exact ho2), ?_⟩, turned_keeps ht2⟩
  unfold delKey
  rw [← ents_del]
  exact hp.filter _
/-! ### A range -/
/-- A range over the map in b that has todo still to come. -/
def Ranging (w : World) (b r : Nat) (E : Tx → Tx → Value) (l todo : As) : Prop :=
  St.Keyed l ∧ (∀ p ∈ l, p.1.length ≤ maxLen) ∧ ∃ n L left cnt, w.ranges Tryz.prog 9 Raw b r n (.map L) left cnt ∧ L.Perm (ents E l) ∧ todo.Perm (l.filter fun p => left (.string p.1)) ∧ (∀ kl, left kl = true → Maps.has (.map L) kl = true)
theorem Ranging.keep {S : List Nat} {w w' : World} {b r : Nat} {E : Tx → Tx → Value} {l todo : As} (h : Ranging w b r E l todo) (hk : Keeps S w w') (h1 : b ∉ S) (h2 : r ∉ S) : Ranging w' b r E l todo := by
  obtain ⟨q1, q2, n, L, left, cnt, ⟨es, c, since, seen, c0, hb, F, hs, hD, hr, hrest⟩, q3⟩ := h
  exact ⟨q1, q2, n, L, left, cnt, ⟨es, c, since, seen, c0, block_keep hb hk h1, F, hs, hD, block_keep hr hk h2, hrest⟩, q3⟩
theorem Ranging.map {w : World} {b r : Nat} {E : Tx → Tx → Value} {l todo : As} (h : Ranging w b r E l todo) : MapAt w b E l := by
  obtain ⟨q1, q2, n, L, left, cnt, hr, hp, _⟩ := h
  exact ⟨q1, q2, n, L, hr.owns, hp⟩
theorem Ranging.lt {w : World} {b r : Nat} {E : Tx → Tx → Value} {l todo : As} (h : Ranging w b r E l todo) : r < w.heap.size := by
  obtain ⟨q1, q2, n, L, left, cnt, hr, hp, _⟩ := h
  exact hr.lt
theorem wpList_range_map {P : Program} (hP : P = Tryz.prog) (w : World) {ops : Array Oper} {rest : List Oper} {o : Oper} {a : Act} {Q : Exit → Act → World → Prop} (hg : o.guard = none) (m : Operand) (t : TypeId) (hop : o.op = Op.range t m) (e : TypeId) (ht : Tryz.prog.underlying t = some (.map 9 e)) (b : Nat) (E : Tx → Tx → Value) (l : As)
    (hm : a.eval m = .map (some b)) (h : MapAt w b E l)
    (hK : ∀ w', Ranging w' b w.heap.size E l l → Keeps [] w w' → w'.heap.size = w.heap.size + 1 → wpList P ops Q rest (a.put o.dst (.pointer (some ⟨w.heap.size, 0, none⟩))) w') :
    wpList P ops Q (o :: rest) a w := by
  subst hP
  obtain ⟨h1, h2, n, L, ho, hp⟩ := h
  refine wpList_range_own w hg m t hop 9 e strKey ht Raw b n (.map L) hm ho fun w' hr hgr hs => hK w' ⟨h1, h2, n, L, _, _, hr, hp, ?_, fun _ h => h⟩ ((Keeps.of_grown hgr).mono (by simp)) hs
  rw [List.filter_eq_self.2]
  intro p hpm
  rw [has_map h1 hp, St.mem_look h1 (k := p.1) (v := p.2) hpm]; rfl
theorem perm_head {α : Type} {p : α} {l : List α} (h : p ∈ l) : ∃ r, l.Perm (p :: r) := by
  obtain ⟨a, b, rfl⟩ := List.append_of_mem h
  exact ⟨a ++ b, List.perm_middle⟩
theorem wpList_next_map {P : Program} (hP : P = Tryz.prog) (w : World) {ops : Array Oper} {rest : List Oper} {o : Oper} {a : Act} {Q : Exit → Act → World → Prop} (hg : o.guard = none) (it : Operand) (hop : o.op = Op.next it false) (b r : Nat) (E : Tx → Tx → Value) (l todo : As)
    (hit : a.eval it = .pointer (some ⟨r, 0, none⟩)) (h : Ranging w b r E l todo)
    (hDone : todo = [] → wpList P ops Q rest (a.put o.dst (.tuple #[.bool false])) w)
    (hMore : ∀ (k v : Tx) (todo' : As) (w' : World), todo.Perm ((k, v) :: todo') → (k, v) ∈ l → k.length ≤ maxLen → Ranging w' b r E l todo' → w'.rangeLeft b r < w.rangeLeft b r → Keeps [r] w w' → w'.heap.size = w.heap.size →
      (Instr.entry (.pointer (some ⟨r, 0, none⟩))).run P w' = .ok (.tuple #[.string (strO k), E k v]) w' → wpList P ops Q rest (a.put o.dst (.tuple #[.bool true, .string (strO k), E k v])) w') :
    wpList P ops Q (o :: rest) a w := by
  subst hP
  obtain ⟨h1, h2, n, L, left, cnt, hr, hp, ht, hl⟩ := h
  refine wpList_next_ranges w hg it hop 9 strKey Raw (fun k : Tx => .string (strO k)) (fun v : Value => v) (fun key kl hkey => by
    obtain ⟨s, rfl, _, _⟩ := WideMaps.string_of_keyOf Tryz.underlying9 hkey
    exact ⟨s.data.toList, by rw [strO_data]⟩) (fun v _ _ => ⟨v, rfl⟩) b r n (.map L) left cnt hit hr (fun _ h0 => hDone ?_) ?_
  · have : (l.filter fun p => left (.string p.1)) = [] := by
      rw [List.filter_eq_nil_iff]
      intro p _
      rw [h0]; simp
    rw [this] at ht
    exact ht.eq_nil
  · intro k c kl y w' cnt' hkey hlk hy hat hr' hlt hgr hs hen
    obtain ⟨s, es, hkl, hsz⟩ := WideMaps.string_of_keyOf Tryz.underlying9 hkey
    have hks : s = strO k := (Value.string.inj es).symm
    subst hks
    rw [strO_list] at hkl
    rw [strO_len] at hsz
    subst hkl
    have hh := hl _ hlk
    rw [has_map h1 hp] at hh
    obtain ⟨v, hv⟩ := Option.isSome_iff_exists.1 hh
    have hc : c = E k v := by
      have e := hat (.held c)
      rw [atKey_map h1 hp, hv] at e
      simp only [Raw, Option.some.injEq] at hy
      rw [← hy] at e
      exact (DataW.held.inj e).symm
    subst hc
    have hm := St.look_mem hv
    have hmt : (k, v) ∈ todo := ht.mem_iff.2 (List.mem_filter.2 ⟨hm, hlk⟩)
    obtain ⟨todo', hpt⟩ := perm_head hmt
    refine hMore k v todo' w' hpt hm hsz ⟨h1, h2, n, L, _, _, hr', hp, ?_, fun kl hkl => hl kl (by
      simp only [Bool.and_eq_true] at hkl
      exact hkl.1)⟩ (by rw [hr.left_eq, hr'.left_eq]; exact hlt) ((Keeps.of_grown hgr).mono (by simp)) hs hen
    have hnd : ((k, v) :: todo').Nodup := (hpt.nodup_iff).1 ((ht.nodup_iff).2 (h1.nodup.filter _))
    have hp2 : ((k, v) :: todo').Perm (l.filter fun p => left (.string p.1)) := hpt.symm.trans ht
    have hnd2 := List.nodup_cons.1 hnd
    refine (List.perm_ext_iff_of_nodup hnd2.2 (h1.nodup.filter _)).2 fun p => ?_
    have hm2 := hp2.mem_iff (a := p)
    rw [List.mem_cons, List.mem_filter] at hm2
    rw [List.mem_filter]
    simp only [sameKey_str, Bool.and_eq_true, Bool.not_eq_true', decide_eq_false_iff_not]
    constructor
    · intro hpm
      obtain ⟨g1, g2⟩ := hm2.1 (.inr hpm)
      refine ⟨g1, g2, fun e => ?_⟩
      obtain ⟨p1, p2⟩ := p
      simp only at e
      subst e
      have := h1.inj g1 hm
      subst this
      exact hnd2.1 hpm
    · rintro ⟨g1, g2, g3⟩
      rcases hm2.2 ⟨g1, g2⟩ with e | e
      · exact absurd (by rw [e]) g3
      · exact e
end Go.Proofs.YtbanpdeganlndaaGreatDoor
namespace Go.Proofs.YtbanpdeganlndaaGreatDoor
open Go.RowKit
open St (Tx As Ch)

/-- How a store's map holds a pair; how a statement's does. -/
def EP (k v : Tx) : Value := .agg #[.string (strO k), .string (strO v), .bool false]
def ES (_ v : Tx) : Value := .string (strO v)
theorem zeroPair (w : World) : (zeroValue 66).run Tryz.prog w = .ok (.agg #[.string ⟨#[]⟩, .string ⟨#[]⟩, .bool false]) w := by kernel_rfl
theorem zeroStr (w : World) : (zeroValue 9).run Tryz.prog w = .ok (.string ⟨#[]⟩) w := by kernel_rfl
theorem rangeLeft_keep {S : List Nat} {w w' : World} {b r : Nat} (hk : Keeps S w w') (h1 : b < w.heap.size) (h2 : r < w.heap.size) (hb : b ∉ S) (hr : r ∉ S) : w'.rangeLeft b r = w.rangeLeft b r := by
  unfold World.rangeLeft; rw [hk.block b h1 hb, hk.block r h2 hr]
theorem size_mem {l : As} {k v : Tx} (h : (k, v) ∈ l) : k.length + v.length ≤ St.size l := by
  induction l with
  | nil => cases h
  | cons p l ih =>
    have e : St.size (p :: l) = p.1.length + p.2.length + St.size l := by simp [St.size]
    rcases List.mem_cons.1 h with rfl | h
    · rw [e]; simp
    · have := ih h; omega
theorem size_cons {k v : Tx} {l : As} : St.size ((k, v) :: l) = k.length + v.length + St.size l := by simp [St.size]

set_option maxHeartbeats 1000000 in
theorem get_any (w : World) (mb : Nat) (l : As) (h : MapAt w mb EP l) (k : Tx) (hk : k.length ≤ maxLen) :
    Calls Tryz.prog 24 #[.map (some mb), .string (strO k)] w fun e w' => e = .returned (.tuple #[.string (strO ((St.look l k).getD [])), .bool (St.look l k).isSome]) ∧ Keeps [] w w' := by
  have hrun := h.look Tryz.underlying41 (zeroPair w) hk
  clear h hk
  cases hl : St.look l k with
  | none =>
    rw [hl] at hrun
    simp only [Option.isSome_none] at hrun
    clear hl
    go_enter Tryz.func24, Tryz.ntmps24
    go_wp2
    go_ret2
    exact ⟨rfl, (Keeps.refl [] w).alloc _⟩
  | some v =>
    rw [hl] at hrun
    simp only [Option.isSome_some, EP] at hrun
    obtain ⟨a, ha⟩ : ∃ a, a = strO k := ⟨_, rfl⟩
    obtain ⟨b, hb⟩ : ∃ b, b = strO v := ⟨_, rfl⟩
    rw [← ha, ← hb] at hrun
    rw [← ha]
    have HB := Lib.hid hb
    clear hl ha hb
    go_enter Tryz.func24, Tryz.ntmps24
    go_wp2
    go_ret2
    exact ⟨by rw [HB.out]; rfl, (Keeps.refl [] w).alloc _⟩

set_option maxHeartbeats 1000000 in
set_option maxRecDepth 100000 in
theorem ssize_any (w : World) (mb : Nat) (l : As) (h : MapAt w mb EP l) (hs : St.size l ≤ 1099511627776) :
    Calls Tryz.prog 26 #[.map (some mb)] w fun e w' => e = .returned (.int .i64 ((St.size l : Nat) : Int)) ∧ Keeps [] w w' := by
  have hmb := h.lt
  have HM := Lib.hid h
  clear h
  go_enter Tryz.func26, Tryz.ntmps26
  go_wp2_with (at_range; refine wpList_range_map rfl _ rfl _ 41 rfl 66 Tryz.underlying41 mb EP l rfl HM.out ?_; intro w0 hrg0 hk0 hs0)
  have HRG0 := Lib.hid hrg0
  have HK0 := Lib.hid hk0
  clear hrg0 hk0 hs0
  go_frame
  go_loopw [3] (fun n wr => ∃ (todo : As) (m : Nat), n = .int .i64 (m : Int) ∧ m + St.size todo = St.size l ∧ Ranging wr mb w.heap.size EP l todo ∧ Keeps [] w wr) (fun _ wr => wr.rangeLeft mb w.heap.size)
  case atStart => exact ⟨l, 0, rfl, by omega, HRG0.out, HK0.out⟩
  case round =>
    obtain ⟨todo, m, rfl, hm, hrg, hk⟩ := hrel
    have HRG := Lib.hid hrg
    have HK := Lib.hid hk
    have hml : m ≤ 1099511627776 := by omega
    have HMM := Lib.hid hm
    clear hk hm
    go_wp2_with (at_next; refine wpList_next_map rfl _ rfl _ rfl mb w.heap.size EP l todo rfl hrg ?_ ?_)
    · intro h0
      have HN := Lib.hid h0
      clear h0 hrg
      go_wp2_with fail
      go_ret
      refine ⟨?_, HK.out⟩
      have e : m = St.size l := by have := HMM.out; rw [HN.out] at this; simpa [St.size] using this
      rw [e]; rfl
    · intro k v todo' w1 hp hmem hkl hrg1 hlt1 hk1 hs1 hen
      have hsz : m + (k.length + v.length) + St.size todo' = St.size l := by
        have h1 := HMM.out
        rw [St.size_perm hp, size_cons] at h1
        omega
      obtain ⟨c, hc⟩ : ∃ c : Ch, c = ⟨k, v, false⟩ := ⟨_, rfl⟩
      have hcs : c.size = k.length + v.length := by rw [hc]; rfl
      have HPS := Lib.hid (fun w' => psize_any w' c (by rw [hc]; show k.length ≤ _; omega) (by rw [hc]; show v.length ≤ _; omega))
      rw [← hcs] at hsz
      have hep : EP k v = .agg #[.string (strO c.key), .string (strO c.val), .bool c.gone] := by rw [hc]; rfl
      rw [hep] at hen ⊢
      obtain ⟨ka, hka⟩ : ∃ a, a = strO c.key := ⟨_, rfl⟩
      obtain ⟨va, hva⟩ : ∃ a, a = strO c.val := ⟨_, rfl⟩
      obtain ⟨ga, hga⟩ : ∃ a, a = c.gone := ⟨_, rfl⟩
      obtain ⟨kk, hkk⟩ : ∃ a, a = strO k := ⟨_, rfl⟩
      obtain ⟨n, hn⟩ : ∃ n, n = c.size := ⟨_, rfl⟩
      rw [← hka, ← hva, ← hga, ← hkk] at hen
      rw [← hka, ← hva, ← hga, ← hkk]
      rw [← hka, ← hva, ← hga, ← hn] at HPS
      rw [← hn] at hsz
      have hn1 : n ≤ 1099511627776 := by omega
      have HSZ := Lib.hid hsz
      have HRG1 := Lib.hid hrg1
      have HK1 := Lib.hid (HK.out.fresh hk1 (by simp))
      have HLT1 := Lib.hid hlt1
      clear hp hmem hkl hrg1 hlt1 hk1 hs1 hsz hcs hep hc hka hva hga hkk hn hrg
      go_wp2_with fail
      refine (HPS.out _).mono ?_
      rintro e w2 ⟨rfl, hk2⟩
      have hk12 := ((Keeps.refl [] w1).alloc (.cells #[.string ka, .string va, .bool ga] 66)).trans hk2 (by simp)
      have HK2 := Lib.hid (HK1.out.trans hk12 (by simp))
      have HRG2 := Lib.hid (HRG1.out.keep hk12 (by simp) (by simp))
      have HLE := Lib.hid (rangeLeft_keep hk12 HRG1.out.map.lt HRG1.out.lt (by simp) (by simp))
      clear hk2 hk12
      go_wp2_with fail
      go_roundw
      case rel => exact ⟨todo', m + n, by go_num, HSZ.out, HRG2.out, HK2.out⟩
      case measure => rw [HLE.out]; exact HLT1.out
end Go.Proofs.YtbanpdeganlndaaGreatDoor
namespace Go.Proofs
open Go.Shelf
def Tryz.strClone_ren : Go.Shelf.Ren := ⟨fun | 316 => 80 | n => n, fun | 9 => 9 | 3 => 3 | 4 => 4 | 37 => 62 | 0 => 0 | 127 => 174 | 5 => 5 | n => n, fun | n => n⟩
theorem Tryz.strClone : Go.Proofs.LaysM.n316 Tryz.prog Tryz.strClone_ren := {
  mixed := by kernel_rfl
  f316 := Tryz.func80.trans (congrArg some (by kernel_rfl))
  t0 := Tryz.underlying0
  a0 := Tryz.isAgg0
  z0 := Tryz.sizeOf0
  v0 := Tryz.zeroValue0
  t3 := Tryz.underlying3
  a3 := Tryz.isAgg3
  z3 := Tryz.sizeOf3
  v3 := Tryz.zeroValue3
  t4 := Tryz.underlying4
  a4 := Tryz.isAgg4
  z4 := Tryz.sizeOf4
  v4 := Tryz.zeroValue4
  t9 := Tryz.underlying9
  a9 := Tryz.isAgg9
  z9 := Tryz.sizeOf9
  v9 := Tryz.zeroValue9
  t37 := Tryz.underlying62
  a37 := Tryz.isAgg62
  z37 := Tryz.sizeOf62
  v37 := Tryz.zeroValue62
  t127 := Tryz.underlying174
  a127 := Tryz.isAgg174
  z127 := Tryz.sizeOf174
  v127 := Tryz.zeroValue174
  t5 := Tryz.underlying5
  a5 := Tryz.isAgg5
  z5 := Tryz.sizeOf5
  v5 := Tryz.zeroValue5
  i0 := by kernel_rfl
  i3 := by kernel_rfl
  i4 := by kernel_rfl
  i5 := by kernel_rfl
  i9 := by kernel_rfl
  i37 := by kernel_rfl
  i127 := by kernel_rfl }
def Tryz.sortS_ren : Go.Shelf.Ren := ⟨fun | 6 => 40 | 8 => 67 | 9 => 66 | 19 => 107 | 20 => 108 | 21 => 98 | 22 => 99 | 23 => 100 | 24 => 101 | 25 => 102 | 26 => 103 | 27 => 104 | 28 => 105 | 29 => 106 | 36 => 132 | 31 => 133 | 32 => 134 | 37 => 135 | 38 => 136 | 39 => 137 | 41 => 163 | n => n, fun | 27 => 68 | 29 => 9 | 3 => 3 | 32 => 94 | 26 => 68 | 0 => 0 | 44 => 127 | 46 => 47 | 4 => 4 | 36 => 156 | 35 => 155 | 41 => 160 | 5 => 5 | 9 => 9 | 53 => 193 | 57 => 197 | 63 => 219 | 64 => 220 | n => n, fun | n => n⟩
theorem Tryz.sortS : Go.Proofs.SlLaysM.n6 Tryz.prog Tryz.sortS_ren := {
  mixed := by kernel_rfl
  f6 := ⟨Tryz.f40.name, by decide, Tryz.func40.trans (congrArg some (by kernel_rfl))⟩
  f8 := Tryz.func67.trans (congrArg some (by kernel_rfl))
  f9 := ⟨Tryz.f66.name, by decide, Tryz.func66.trans (congrArg some (by kernel_rfl))⟩
  f19 := Tryz.func107.trans (congrArg some (by kernel_rfl))
  f20 := Tryz.func108.trans (congrArg some (by kernel_rfl))
  f21 := ⟨Tryz.f98.name, by decide, Tryz.func98.trans (congrArg some (by kernel_rfl))⟩
  f22 := ⟨Tryz.f99.name, by decide, Tryz.func99.trans (congrArg some (by kernel_rfl))⟩
  f23 := ⟨Tryz.f100.name, by decide, Tryz.func100.trans (congrArg some (by kernel_rfl))⟩
  f24 := ⟨Tryz.f101.name, by decide, Tryz.func101.trans (congrArg some (by kernel_rfl))⟩
  f25 := ⟨Tryz.f102.name, by decide, Tryz.func102.trans (congrArg some (by kernel_rfl))⟩
  f26 := ⟨Tryz.f103.name, by decide, Tryz.func103.trans (congrArg some (by kernel_rfl))⟩
  f27 := ⟨Tryz.f104.name, by decide, Tryz.func104.trans (congrArg some (by kernel_rfl))⟩
  f28 := ⟨Tryz.f105.name, by decide, Tryz.func105.trans (congrArg some (by kernel_rfl))⟩
  f29 := ⟨Tryz.f106.name, by decide, Tryz.func106.trans (congrArg some (by kernel_rfl))⟩
  f31 := Tryz.func133.trans (congrArg some (by kernel_rfl))
  f32 := Tryz.func134.trans (congrArg some (by kernel_rfl))
  f36 := ⟨Tryz.f132.name, by decide, Tryz.func132.trans (congrArg some (by kernel_rfl))⟩
  f37 := ⟨Tryz.f135.name, by decide, Tryz.func135.trans (congrArg some (by kernel_rfl))⟩
  f38 := ⟨Tryz.f136.name, by decide, Tryz.func136.trans (congrArg some (by kernel_rfl))⟩
  f39 := ⟨Tryz.f137.name, by decide, Tryz.func137.trans (congrArg some (by kernel_rfl))⟩
  f41 := ⟨Tryz.f163.name, by decide, Tryz.func163.trans (congrArg some (by kernel_rfl))⟩
  t0 := Tryz.underlying0
  a0 := Tryz.isAgg0
  z0 := Tryz.sizeOf0
  v0 := Tryz.zeroValue0
  t3 := Tryz.underlying3
  a3 := Tryz.isAgg3
  z3 := Tryz.sizeOf3
  v3 := Tryz.zeroValue3
  t4 := Tryz.underlying4
  a4 := Tryz.isAgg4
  z4 := Tryz.sizeOf4
  v4 := Tryz.zeroValue4
  t5 := Tryz.underlying5
  a5 := Tryz.isAgg5
  z5 := Tryz.sizeOf5
  v5 := Tryz.zeroValue5
  t9 := Tryz.underlying9
  a9 := Tryz.isAgg9
  z9 := Tryz.sizeOf9
  v9 := Tryz.zeroValue9
  t26 := Tryz.underlying68
  a26 := Tryz.isAgg68
  z26 := Tryz.sizeOf68
  v26 := Tryz.zeroValue68
  t27 := Tryz.underlying68
  a27 := Tryz.isAgg68
  z27 := Tryz.sizeOf68
  v27 := Tryz.zeroValue68
  t29 := Tryz.underlying9
  a29 := Tryz.isAgg9
  z29 := Tryz.sizeOf9
  v29 := Tryz.zeroValue9
  t32 := Tryz.underlying94
  a32 := Tryz.isAgg94
  z32 := Tryz.sizeOf94
  v32 := Tryz.zeroValue94
  t35 := Tryz.underlying155
  a35 := Tryz.isAgg155
  z35 := Tryz.sizeOf155
  v35 := Tryz.zeroValue155
  t36 := Tryz.underlying156
  a36 := Tryz.isAgg156
  z36 := Tryz.sizeOf156
  v36 := Tryz.zeroValue156
  t41 := Tryz.underlying160
  a41 := Tryz.isAgg160
  z41 := Tryz.sizeOf160
  v41 := Tryz.zeroValue160
  t44 := Tryz.underlying127
  a44 := Tryz.isAgg127
  z44 := Tryz.sizeOf127
  v44 := Tryz.zeroValue127
  t46 := Tryz.underlying47
  a46 := Tryz.isAgg47
  z46 := Tryz.sizeOf47
  v46 := Tryz.zeroValue47
  t53 := Tryz.underlying193
  a53 := Tryz.isAgg193
  z53 := Tryz.sizeOf193
  v53 := Tryz.zeroValue193
  t57 := Tryz.underlying197
  a57 := Tryz.isAgg197
  z57 := Tryz.sizeOf197
  v57 := Tryz.zeroValue197
  t63 := Tryz.underlying219
  a63 := Tryz.isAgg219
  z63 := Tryz.sizeOf219
  v63 := Tryz.zeroValue219
  t64 := Tryz.underlying220
  a64 := Tryz.isAgg220
  z64 := Tryz.sizeOf220
  v64 := Tryz.zeroValue220 }
def Tryz.cloneC_ren : Go.Shelf.Ren := ⟨fun | 5 => 36 | 7 => 61 | n => n, fun | 23 => 41 | 25 => 9 | 3 => 66 | 4 => 4 | 20 => 20 | n => n, fun | n => n⟩
theorem Tryz.cloneC : Go.Proofs.SlLaysW.n5 Tryz.prog Tryz.cloneC_ren := {
  mixed := by kernel_rfl
  f5 := ⟨Tryz.f36.name, by decide, Tryz.func36.trans (congrArg some (by kernel_rfl))⟩
  f7 := Tryz.func61.trans (congrArg some (by kernel_rfl))
  t4 := Tryz.underlying4
  a4 := Tryz.isAgg4
  z4 := Tryz.sizeOf4
  v4 := Tryz.zeroValue4
  t20 := Tryz.underlying20
  a20 := Tryz.isAgg20
  z20 := Tryz.sizeOf20
  v20 := Tryz.zeroValue20
  t23 := Tryz.underlying41
  a23 := Tryz.isAgg41
  z23 := Tryz.sizeOf41
  v23 := Tryz.zeroValue41 }
end Go.Proofs
namespace Go.Proofs.YtbanpdeganlndaaGreatDoor
open Go.RowKit
open St (Tx As Ch)

theorem lclone_any (s : ByteArray) (w : World) (hs : s.size ≤ 281474976710656) :
    Calls Tryz.prog 80 #[.string s] w fun e w' => e = .returned (.string s) ∧ Keeps [] w w' := by
  have h := Any.stringslite_Clone Tryz.strClone s w hs
  change Calls Tryz.prog 80 _ _ _ at h
  exact h.mono fun e w' ⟨h1, h2⟩ => ⟨h1, Keeps.of_below h2 []⟩
set_option maxHeartbeats 400000 in
theorem sclone_any (s : ByteArray) (w : World) (hs : s.size ≤ 281474976710656) :
    Calls Tryz.prog 51 #[.string s] w fun e w' => e = .returned (.string s) ∧ Keeps [] w w' := by
  have HC := Lib.hid (lclone_any s w hs)
  go_enter Tryz.func51, Tryz.ntmps51
  go_wp2_with fail
  refine HC.out.mono ?_
  rintro e w' ⟨rfl, hk⟩
  go_wp2_with fail
  go_ret
  exact ⟨rfl, hk⟩
theorem wpList_store_map {P : Program} (hP : P = Tryz.prog) (w : World) {ops : Array Oper} {rest : List Oper} {o : Oper} {a : Act} {Q : Exit → Act → World → Prop} (hg : o.guard = none) (m x v : Operand) (t : TypeId) (hop : o.op = Op.mapUpdate t m x v) (e : TypeId) (ht : Tryz.prog.underlying t = some (.map 9 e)) (b : Nat) (E : Tx → Tx → Value) (l : As)
    (hm : a.eval m = .map (some b)) (h : MapAt w b E l) (hn : l.length < maxLen) (k u : Tx) (hx : a.eval x = .string (strO k)) (hv : a.eval v = E k u) (hk : k.length ≤ maxLen)
    (hK : ∀ w', MapAt w' b E (St.put l k u) → Keeps [b] w w' → wpList P ops Q rest (a.put o.dst undef) w') :
    wpList P ops Q (o :: rest) a w := by
  subst hP
  refine wpList_plain hg fun K' hK' => ?_
  obtain ⟨w', hrun, r1, r2⟩ := h.store ht hn hk (v := u)
  unfold Oper.wp
  simp [execOp, hop, hm, hx, hv, hrun, Result.andThen]
  exact hK' _ _ (hK w' r1 r2)
theorem wpList_drop_map {P : Program} (hP : P = Tryz.prog) (w : World) {ops : Array Oper} {rest : List Oper} {o : Oper} {a : Act} {Q : Exit → Act → World → Prop} (hg : o.guard = none) (m x : Operand) (t : TypeId) (hop : o.op = Op.call { callee := Callee.builtin Builtin.delete, args := #[m, x], argTypes := #[t, 9] }) (e : TypeId) (ht : Tryz.prog.underlying t = some (.map 9 e)) (b : Nat) (E : Tx → Tx → Value) (l : As)
    (hm : a.eval m = .map (some b)) (h : MapAt w b E l) (k : Tx) (hx : a.eval x = .string (strO k)) (hk : k.length ≤ maxLen)
    (hK : ∀ w', MapAt w' b E (St.del l k) → Keeps [b] w w' → wpList P ops Q rest (a.put o.dst (.tuple #[])) w') :
    wpList P ops Q (o :: rest) a w := by
  subst hP
  refine wpList_plain hg fun K' hK' => ?_
  obtain ⟨w', hrun, r1, r2⟩ := h.drop ht hk o.type
  unfold Oper.wp
  simp [execOp, hop, resolve, invoke, builtin, hm, hx, hrun, Result.andThen]
  exact hK' _ _ (hK w' r1 r2)
theorem len_app (l : As) (c : Ch) : (St.app l c).length ≤ l.length + 1 := by
  unfold St.app; split
  · exact Nat.le_trans (List.length_filter_le _ _) (by omega)
  · show ((c.key, c.val) :: St.del l c.key).length ≤ _
    have := List.length_filter_le (fun p : Tx × Tx => decide (p.1 ≠ c.key)) l
    simp only [List.length_cons, St.del]; omega
theorem len_apps (cs : List Ch) : ∀ l : As, (St.apps l cs).length ≤ l.length + cs.length := by
  induction cs with
  | nil => intro l; exact Nat.le_refl _
  | cons c cs ih =>
    intro l
    have h1 := ih (St.app l c)
    have h2 := len_app l c
    show (St.apps (St.app l c) cs).length ≤ _
    rw [List.length_cons]; omega
set_option maxRecDepth 100000 in
set_option maxHeartbeats 4000000 in
theorem change_any' (w : World) (mb : Nat) (l : As) (h : MapAt w mb EP l) (g : Nat) (A : Option Addr) (cs : List Ch) (cap : Nat) (hr : PairsIn w g A cs) (hg : g ≠ mb) (hs : ∀ c ∈ cs, c.size ≤ 1048512) (hl : cs.length ≤ 100000) (hll : l.length ≤ 1000000) :
    Calls Tryz.prog 30 #[.map (some mb), .slice A cs.length cap] w fun e w' => e = .returned (.tuple #[]) ∧ MapAt w' mb EP (St.apps l cs) ∧ Keeps [mb] w w' := by
  have hmb := h.lt
  have HM0 := Lib.hid h
  have HB := Lib.hid hr
  have HSZ := Lib.hid hs
  have HLN := Lib.hid (fun k => len_apps (cs.take k) l)
  clear hr hs h
  go_enter Tryz.func30, Tryz.ntmps30
  go_wp2_with fail
  go_loopw [9] (fun kv wr => ∃ k, k ≤ cs.length ∧ kv = .int .i64 (k : Int) ∧ MapAt wr mb EP (St.apps l (cs.take k)) ∧ Keeps [mb] w wr) (fun kv _ => cs.length - (RowKit.intOf kv).toNat)
  case atStart => exact ⟨0, by omega, rfl, by simpa [St.apps] using HM0.out, Keeps.refl _ _⟩
  case round =>
    obtain ⟨k, hk, rfl, hm, hkk⟩ := hrel
    have HM := Lib.hid hm
    have HK := Lib.hid hkk
    clear hm hkk
    by_cases hlt : k < cs.length
    · rcases HB.out with h0 | ⟨off, rfl, hcell⟩
      · subst h0; simp at hlt
      · obtain ⟨c1, c2, c3⟩ := hcell k hlt
        have hsz := HSZ.out _ (List.getElem_mem hlt)
        have HTK := Lib.hid (show St.apps l (cs.take (k + 1)) = St.app (St.apps l (cs.take k)) cs[k] by rw [List.take_succ_eq_append_getElem hlt, St.apps_snoc])
        have hlen : (St.apps l (cs.take k)).length < maxLen := by
          have h1 := HLN.out k
          rw [List.length_take] at h1
          unfold maxLen; omega
        obtain ⟨l1, hl1⟩ : ∃ l1, l1 = St.apps l (cs.take k) := ⟨_, rfl⟩
        rw [← hl1] at HM HTK hlen
        obtain ⟨c, hc⟩ : ∃ c, c = cs[k] := ⟨_, rfl⟩
        rw [← hc] at c1 c2 c3 hsz HTK
        have d1 := HK.out.cell_some c1 (by simpa using hg)
        have d2 := HK.out.cell_some c2 (by simpa using hg)
        have d3 := HK.out.cell_some c3 (by simpa using hg)
        obtain ⟨key, val, gone⟩ := c
        have hk1 : key.length ≤ 1048512 ∧ val.length ≤ 1048512 := by have h9 : key.length + val.length ≤ 1048512 := hsz; omega
        simp only at d1 d2 d3
        have HKL := Lib.hid (show key.length ≤ maxLen by unfold maxLen; omega)
        have HC1 := Lib.hid (fun w' => sclone_any (strO key) w' (by rw [strO_len]; omega))
        have HC2 := Lib.hid (fun w' => sclone_any (strO val) w' (by rw [strO_len]; omega))
        have HLE := Lib.hid hlen
        obtain ⟨ka, hka⟩ : ∃ a, a = strO key := ⟨_, rfl⟩
        obtain ⟨va, hva⟩ : ∃ a, a = strO val := ⟨_, rfl⟩
        rw [← hka] at d1 HC1
        rw [← hva] at d2 HC2
        have HKA := Lib.hid hka
        have HVA := Lib.hid hva
        have hk2 : Keeps [] wr (wr.alloc (.cells #[.string ka, .string va, .bool gone] 66)) := (Keeps.refl _ _).alloc _
        have HM2 := Lib.hid (HM.out.keep hk2 (by simp))
        have HK2 := Lib.hid (HK.out.trans (hk2.mono (T := [mb]) (by simp)) (fun _ hi _ => hi))
        clear hcell c1 c2 c3 hsz hc hl1 hlen hk1 hka hva hk2
        cases gone with
        | true =>
          have HT2 := Lib.hid (show St.app l1 ⟨key, val, true⟩ = St.del l1 key by simp [St.app])
          go_wp2_with (at_delete; refine wpList_drop_map rfl _ rfl _ _ 41 rfl 66 Tryz.underlying41 mb EP l1 rfl HM2.out key (congrArg Value.string HKA.out) HKL.out ?_)
          intro w3 hm3 hk3
          have HM3 := Lib.hid hm3
          have HK3 := Lib.hid (HK2.out.trans hk3 (fun _ hi _ => hi))
          clear hm3 hk3
          go_wp2_with fail
          go_roundw
          case rel => exact ⟨k + 1, hlt, by go_num, by rw [HTK.out, HT2.out]; exact HM3.out, HK3.out⟩
          case measure => simp [RowKit.intOf]; omega
        | false =>
          have HT2 := Lib.hid (show St.app l1 ⟨key, val, false⟩ = St.put l1 key val by simp [St.app])
          go_wp2_with fail
          refine (HC1.out _).mono ?_
          rintro e w3 ⟨rfl, hk3⟩
          have hc3 : w3.cell? ⟨wr.heap.size, 1, none⟩ = some (.string va) := hk3.cell_some (cell_of_row _ _ _ _ _ _ (heap_alloc_new wr _)) (by simp)
          have HM3 := Lib.hid (HM2.out.keep hk3 (by simp))
          have HK3 := Lib.hid (HK2.out.trans (hk3.mono (T := [mb]) (by simp)) (fun _ hi _ => hi))
          clear hk3
          go_wp2_with fail
          refine (HC2.out _).mono ?_
          rintro e w4 ⟨rfl, hk4⟩
          have HM4 := Lib.hid (HM3.out.keep hk4 (by simp))
          have HK4 := Lib.hid (HK3.out.trans (hk4.mono (T := [mb]) (by simp)) (fun _ hi _ => hi))
          clear hk4
          go_wp2_with (at_mapUpdate; refine wpList_store_map rfl _ rfl _ _ _ 41 rfl 66 Tryz.underlying41 mb EP l1 rfl HM4.out HLE.out key val (congrArg Value.string HKA.out) ?hv HKL.out ?_)
          case hv => unfold EP; rw [← HKA.out, ← HVA.out]; rfl
          intro w5 hm5 hk5
          have HM5 := Lib.hid hm5
          have HK5 := Lib.hid (HK4.out.trans hk5 (fun _ hi _ => hi))
          clear hm5 hk5
          go_wp2_with fail
          go_roundw
          case rel => exact ⟨k + 1, hlt, by go_num, by rw [HTK.out, HT2.out]; exact HM5.out, HK5.out⟩
          case measure => simp [RowKit.intOf]; omega
    · have HF := Lib.hid (show St.apps l (cs.take k) = St.apps l cs by rw [List.take_of_length_le (by omega)])
      go_wp2_with fail
      go_end0
      exact ⟨rfl, by rw [← HF.out]; exact HM.out, HK.out⟩
end Go.Proofs.YtbanpdeganlndaaGreatDoor
namespace Go.Proofs.YtbanpdeganlndaaGreatDoor
open Go.RowKit
open Reg (Is Fact)
open St (Tx As Ch)

/-- A store in memory: its map, its log, whether it is down. -/
structure StAt (w : World) (sp mb lp : Nat) (dn : Bool) (l : As) : Prop where
  box : w.heap[sp]? = some (.cells #[.map (some mb), .pointer (some ⟨lp, 0, none⟩), .bool dn] 46 (0, 0))
  map : MapAt w mb EP l
namespace StAt
variable {w w' : World} {sp mb lp : Nat} {dn : Bool} {l : As} {S : List Nat}
theorem lt (h : StAt w sp mb lp dn l) : sp < w.heap.size ∧ mb < w.heap.size := ⟨block_lt h.box, h.map.lt⟩
theorem ne (h : StAt w sp mb lp dn l) : sp ≠ mb := by
  intro e
  obtain ⟨_, _, n, L, ⟨es, c, hb, _⟩, _⟩ := h.map
  have hx := h.box
  rw [e, hb] at hx
  cases hx
theorem keep (h : StAt w sp mb lp dn l) (hk : Keeps S w w') (h1 : sp ∉ S) (h2 : mb ∉ S) : StAt w' sp mb lp dn l := ⟨block_keep h.box hk h1, h.map.keep hk h2⟩
theorem keep0 (h : StAt w sp mb lp dn l) (hk : Keeps [] w w') : StAt w' sp mb lp dn l := h.keep hk (by simp) (by simp)
theorem c0 (h : StAt w sp mb lp dn l) : w.cell? ⟨sp, 0, none⟩ = some (.map (some mb)) := by rw [row_cell h.box]; rfl
theorem c1 (h : StAt w sp mb lp dn l) : w.cell? ⟨sp, 1, none⟩ = some (.pointer (some ⟨lp, 0, none⟩)) := by rw [row_cell h.box]; rfl
theorem c2 (h : StAt w sp mb lp dn l) : w.cell? ⟨sp, 2, none⟩ = some (.bool dn) := by rw [row_cell h.box]; rfl
theorem downs (h : StAt w sp mb lp dn l) : StAt (w.setCell ⟨sp, 2, none⟩ (.bool true)) sp mb lp true l :=
  ⟨row_set h.box 2 _, h.map.keep ((Keeps.refl [sp] w).setCell (by simp) _) (by simpa using Ne.symm h.ne)⟩
end StAt
set_option maxHeartbeats 400000 in
theorem told_no (w : World) (sp n : Nat) (hn : n ≠ 32) (hm : n ≤ 1000) :
    Calls Tryz.prog 52 #[.pointer (some ⟨sp, 1, none⟩), .int .i64 (n : Int)] w fun e w' => e = .returned (.int .i64 (n : Int)) ∧ w = w' := by
  have hd : decide ((n : Int) = 32) = false := by simp; omega
  have hd2 : ((n : Int) == 32) = false := by simp; omega
  go_enter Tryz.func52, Tryz.ntmps52
  go_wp2
  go_ret
  exact ⟨rfl, rfl⟩
set_option maxHeartbeats 400000 in
theorem told_yes (w : World) (sp mb lp : Nat) (dn : Bool) (l : As) (h : StAt w sp mb lp dn l) :
    Calls Tryz.prog 52 #[.pointer (some ⟨sp, 1, none⟩), .int .i64 32] w fun e w' => e = .returned (.int .i64 32) ∧ w' = w.setCell ⟨sp, 2, none⟩ (.bool true) := by
  have h2 := h.c2
  have hf := row_free h.box 2
  go_enter Tryz.func52, Tryz.ntmps52
  go_wp2
  go_ret
  exact ⟨rfl, rfl⟩
set_option maxHeartbeats 400000 in
theorem down_any (w : World) (sp mb lp : Nat) (dn : Bool) (l : As) (h : StAt w sp mb lp dn l) :
    Calls Tryz.prog 17 #[.pointer (some ⟨sp, 1, none⟩)] w fun e w' => e = .returned (.bool dn) ∧ w = w' := by
  have h2 := h.c2
  go_enter Tryz.func17, Tryz.ntmps17
  go_wp2
  go_ret
  exact ⟨rfl, rfl⟩
/-! ### A change of the log -/
/-- Within add and replace: what has come up, what was answered, and the world. -/
def CA (S : List Nat) (wr : World) (R T : Nat → World → Prop) (L : Nat → Bool) (vs : Nat → Value) (w : World) : Prop :=
  Keeps S wr w ∧ (L 7 = false → Keeps [] wr w) ∧ (L 7 = true → L 8 = false → ∃ n : Nat, vs 7 = .int .i64 (n : Int) ∧ R n w) ∧ (L 8 = true → ∃ n : Nat, vs 8 = .int .i64 (n : Int) ∧ T n w) ∧ (L 9 = true → ∃ n : Nat, vs 9 = .int .i64 (n : Int) ∧ T n w) ∧
  (L 7 = true → L 4 = true ∧ L 6 = true) ∧ (L 8 = true → L 7 = true) ∧ (L 9 = true → L 8 = true)
theorem lay_up {L : Nat → Bool} {i j : Nat} (h : L j = true) : Reg.lay L i j = true := by simp [Reg.lay, h]
def GA (S : List Nat) (w w' : World) : Prop := Keeps S w w'
/-- The records, in blocks of their own. -/
def RecF (W n : Nat) (rs : List (List UInt8)) : Fact := fun v w => ∃ A c, v = .slice A n c ∧ RowsIn w (fun y => W ≤ y) A rs
theorem CA.lay {S : List Nat} {wr w w' : World} {R T : Nat → World → Prop} {L : Nat → Bool} {vs : Nat → Value} {i : Nat} {v : Value} (x : CA S wr R T L vs w) (h : i < 7) (hk : Keeps [] w w')
    (hR : ∀ n w1 w2, R n w1 → Keeps [] w1 w2 → R n w2) (hT : ∀ n w1 w2, T n w1 → Keeps [] w1 w2 → T n w2) : CA S wr R T (Reg.lay L i) (Reg.upd vs i v) w' := by
  have e : ∀ j, 7 ≤ j → Reg.lay L i j = L j := fun j hj => lay_ne (by omega)
  have u : ∀ j, 7 ≤ j → Reg.upd vs i v j = vs j := fun j hj => by unfold Reg.upd; rw [if_neg (by omega)]
  obtain ⟨h1, h2, h3, h4, h5, h6, h7, h8⟩ := x
  unfold CA
  rw [e 7 (by omega), e 8 (by omega), e 9 (by omega), u 7 (by omega), u 8 (by omega), u 9 (by omega)]
  refine ⟨h1.trans hk (by simp), fun hl => (h2 hl).trans hk (by simp), fun hl hm => ?_, fun hl => ?_, fun hl => ?_, fun hl => ⟨lay_up (h6 hl).1, lay_up (h6 hl).2⟩, h7, h8⟩
  · obtain ⟨n, q1, q2⟩ := h3 hl hm
    exact ⟨n, q1, hR _ _ _ q2 hk⟩
  · obtain ⟨n, q1, q2⟩ := h4 hl
    exact ⟨n, q1, hT _ _ _ q2 hk⟩
  · obtain ⟨n, q1, q2⟩ := h5 hl
    exact ⟨n, q1, hT _ _ _ q2 hk⟩
theorem CA.seven {S : List Nat} {wr w w' : World} {R T : Nat → World → Prop} {L : Nat → Bool} {vs : Nat → Value} {n : Nat} (x : CA S wr R T L vs w) (h7 : L 7 = false) (h46 : L 4 = true ∧ L 6 = true) (hk : Keeps S w w') (h : R n w') : CA S wr R T (Reg.lay L 7) (Reg.upd vs 7 (.int .i64 (n : Int))) w' := by
  have c := x.2.2.2.2.2
  have h8 : L 8 = false := by cases h : L 8 with | false => rfl | true => rw [c.2.1 h] at h7; cases h7
  have h9 : L 9 = false := by cases h : L 9 with | false => rfl | true => rw [c.2.2 h] at h8; cases h8
  refine ⟨x.1.trans hk (fun _ h _ => h), fun hl => ?_, fun _ _ => ⟨n, by simp [Reg.upd], h⟩, fun hl => ?_, fun hl => ?_, fun _ => ⟨lay_up h46.1, lay_up h46.2⟩, fun _ => lay_eq, fun hl => ?_⟩
  · rw [lay_eq] at hl; cases hl
  · rw [lay_ne (by decide), h8] at hl; cases hl
  · rw [lay_ne (by decide), h9] at hl; cases hl
  · rw [lay_ne (by decide), h9] at hl; cases hl
theorem CA.eight {S : List Nat} {wr w w' : World} {R T : Nat → World → Prop} {L : Nat → Bool} {vs : Nat → Value} {n : Nat} (x : CA S wr R T L vs w) (h7 : L 7 = true) (h8 : L 8 = false) (hk : Keeps S w w') (h : T n w') : CA S wr R T (Reg.lay L 8) (Reg.upd vs 8 (.int .i64 (n : Int))) w' := by
  have c := x.2.2.2.2.2
  have h9 : L 9 = false := by cases h : L 9 with | false => rfl | true => rw [c.2.2 h] at h8; cases h8
  refine ⟨x.1.trans hk (fun _ h _ => h), fun hl => ?_, fun _ hl => ?_, fun _ => ⟨n, by simp [Reg.upd], h⟩, fun hl => ?_, fun hl => ⟨lay_up (c.1 h7).1, lay_up (c.1 h7).2⟩, fun _ => lay_up h7, fun _ => lay_eq⟩
  · rw [lay_ne (by decide), h7] at hl; cases hl
  · rw [lay_eq] at hl; cases hl
  · rw [lay_ne (by decide), h9] at hl; cases hl
theorem CA.nine {S : List Nat} {wr w : World} {R T : Nat → World → Prop} {L : Nat → Bool} {vs : Nat → Value} (x : CA S wr R T L vs w) (h8 : L 8 = true) (h7 : L 7 = true) : CA S wr R T (Reg.lay L 9) (Reg.upd vs 9 (vs 8)) w := by
  have h := x.2.2.2.1 h8
  have c := x.2.2.2.2.2
  refine ⟨x.1, fun hl => ?_, fun _ hl => ?_, fun _ => ?_, fun _ => ?_, fun hl => ⟨lay_up (c.1 h7).1, lay_up (c.1 h7).2⟩, fun _ => lay_up h7, fun _ => lay_up h8⟩
  · rw [lay_ne (by decide), h7] at hl; cases hl
  · rw [lay_ne (by decide), h8] at hl; cases hl
  · rw [show Reg.upd vs 9 (vs 8) 8 = vs 8 by simp [Reg.upd]]; exact h
  · rw [show Reg.upd vs 9 (vs 8) 9 = vs 8 by simp [Reg.upd]]; exact h
theorem RecF.last {S : List Nat} {W n : Nat} {rs : List (List UInt8)} (hS : ∀ x ∈ S, x < W) : ∀ v w w', RecF W n rs v w → GA S w w' → RecF W n rs v w' :=
  fun _ _ _ ⟨A, c, h1, h2⟩ hg => ⟨A, c, h1, RowsIn.keep h2 hg (fun x hx h => by have := hS x hx; omega) (fun _ h => h)⟩
theorem Is.lastA {S : List Nat} {u : Value} : ∀ v w w', Is u v w → GA S w w' → Is u v w' := fun _ _ _ h _ => h
attribute [local go_sem] Reg.wantedV Reg.gives_value Reg.gives_skip Reg.gives_enter in
set_option maxHeartbeats 4000000 in
set_option maxRecDepth 100000 in
theorem add_gen (w : World) (S : List Nat) (sp mb lp n cap : Nat) (dn : Bool) (l : As) (A : Option Addr) (rs : List (List UInt8)) (R T : Nat → World → Prop) (h : StAt w sp mb lp dn l) (hS : ∀ x ∈ S, x < w.heap.size)
    (hR : ∀ n w1 w2, R n w1 → Keeps [] w1 w2 → R n w2) (hT : ∀ n w1 w2, T n w1 → Keeps [] w1 w2 → T n w2) (hsp : sp ∉ S ∨ sp ∈ S)
    (hrec : ∀ w', Keeps [] w w' → Calls Tryz.prog 54 #[.slice A n cap] w' fun e w2 => ∃ Ar c, e = .returned (.slice Ar n c) ∧ RowsIn w2 (fun y => w.heap.size ≤ y) Ar rs ∧ Keeps [] w' w2)
    (hcom : ∀ w' Ar c, Keeps [] w w' → RowsIn w' (fun y => w.heap.size ≤ y) Ar rs → Calls Tryz.prog 60 #[.pointer (some ⟨lp, 0, none⟩), .slice Ar n c] w' fun e w2 => ∃ m : Nat, e = .returned (.int .i64 (m : Int)) ∧ R m w2 ∧ Keeps S w' w2)
    (htold : ∀ w' m, R m w' → Calls Tryz.prog 52 #[.pointer (some ⟨sp, 1, none⟩), .int .i64 (m : Int)] w' fun e w2 => e = .returned (.int .i64 (m : Int)) ∧ T m w2 ∧ Keeps S w' w2) :
    Calls Tryz.prog 35 #[.pointer (some ⟨sp, 1, none⟩), .slice A n cap] w fun e w' => ∃ m : Nat, e = .returned (.int .i64 (m : Int)) ∧ T m w' ∧ Keeps S w w' := by
  have HC1 := Lib.hid h.c1
  have HREC := Lib.hid hrec
  have HCOM := Lib.hid hcom
  have HTOLD := Lib.hid htold
  have HR := Lib.hid hR
  have HT := Lib.hid hT
  have HS := Lib.hid hS
  clear h hrec hcom htold hR hT hsp hS
  go_enter Tryz.func35, Tryz.ntmps35
  go_wp2_with fail
  refine Reg.wp_region_free (A := ?A) (CA S w R T) (GA S)
    [Is (.pointer (some ⟨sp, 1, none⟩)), Is (.pointer (some ⟨sp, 1, none⟩)), Is (.pointer (some ⟨sp, 1, none⟩)), Is (.pointer (some ⟨sp, 1, none⟩)), Is (.pointer (some ⟨lp, 0, none⟩)), Is (.slice A n cap), RecF w.heap.size n rs, fun _ _ => True, fun _ _ => True, fun _ _ => True]
    (by kernel_rfl) (by kernel_rfl) rfl ?hA ?hC ?ho ?hlast ?hend
  case hA => intro vs; simp only [Reg.fill, if_true, Nat.zero_add, Nat.reduceAdd, Act.put, List.setIfInBounds_toArray, List.set_cons_succ, List.set_cons_zero]; exact rfl
  case hC => exact fun vs => ⟨(Keeps.refl _ _).drew, fun _ => (Keeps.refl _ _).drew, by simp, by simp, by simp⟩
  case hlast => repeat (first | exact trivial | refine ⟨Is.lastA, ?_⟩ | refine ⟨RecF.last HS.out, ?_⟩ | refine ⟨fun _ _ _ _ _ => trivial, ?_⟩)
  case ho =>
    repeat' apply And.intro
    all_goals
      first
        | exact trivial
        | (intro L vs w' hC hL hd ha K hK
           try simp only [Reg.Deps, Reg.at_, List.getD_cons_zero, List.getD_cons_succ, Region.binds, true_implies, Is, and_true] at hd
           try simp only [Reg.Aw, Region.binds, true_implies, and_true] at ha
           go_simp
           first
             | exact hK _ _ (hC.lay (by decide) (Keeps.refl _ _) HR.out HT.out) (Keeps.refl _ _) rfl
             | skip)
    · have h7 : L 7 = false := by
        cases h : L 7 with
        | false => rfl
        | true => have := (hC.2.2.2.2.2.1 h).1; rw [hL] at this; cases this
      rw [(hC.2.1 h7).cell_some HC1.out (by simp)]
      exact hK _ _ (hC.lay (by decide) (Keeps.refl _ _) HR.out HT.out) (Keeps.refl _ _) rfl
    · have h7 : L 7 = false := by
        cases h : L 7 with
        | false => rfl
        | true => have := (hC.2.2.2.2.2.1 h).2; rw [hL] at this; cases this
      refine (HREC.out _ (hC.2.1 h7)).mono ?_
      rintro e w2 ⟨Ar, c, rfl, hrow, hk⟩
      exact ⟨_, rfl, hK _ _ (hC.lay (by decide) hk HR.out HT.out) (hk.mono (by simp)) ⟨Ar, c, rfl, hrow⟩⟩
    · obtain ⟨-, ⟨Ar, c, hv, hrow⟩, -⟩ := hd
      rw [hv]
      refine (HCOM.out _ Ar c (hC.2.1 hL) hrow).mono ?_
      rintro e w2 ⟨m, rfl, hr, hk⟩
      exact ⟨_, rfl, hK _ _ (hC.seven hL ⟨ha.1, ha.2.1⟩ hk hr) hk trivial⟩
    · obtain ⟨m, hv, hr⟩ := hC.2.2.1 ha.2.1 hL
      rw [hv]
      refine (HTOLD.out _ m hr).mono ?_
      rintro e w2 ⟨rfl, ht, hk⟩
      exact ⟨_, rfl, hK _ _ (hC.eight ha.2.1 hL hk ht) hk trivial⟩
    · exact hK _ _ (hC.nine ha.1 (hC.2.2.2.2.2.2.1 ha.1)) (Keeps.refl _ _) trivial
  case hend =>
    intro vs w2 hC hall
    obtain ⟨m, hv, ht⟩ := hC.2.2.2.2.1 rfl
    have HTT := Lib.hid ht
    have HKK := Lib.hid hC.1
    have HV := Lib.hid hv
    clear hC hall ht hv
    rw [HV.out]
    go_wp2_with fail
    go_ret
    exact ⟨m, rfl, HTT.out, HKK.out⟩
attribute [local go_sem] Reg.wantedV Reg.gives_value Reg.gives_skip Reg.gives_enter in
set_option maxHeartbeats 4000000 in
set_option maxRecDepth 100000 in
theorem replace_gen (w : World) (S : List Nat) (sp mb lp n cap : Nat) (dn : Bool) (l : As) (A : Option Addr) (rs : List (List UInt8)) (R T : Nat → World → Prop) (h : StAt w sp mb lp dn l) (hS : ∀ x ∈ S, x < w.heap.size)
    (hR : ∀ n w1 w2, R n w1 → Keeps [] w1 w2 → R n w2) (hT : ∀ n w1 w2, T n w1 → Keeps [] w1 w2 → T n w2) (hsp : sp ∉ S ∨ sp ∈ S)
    (hrec : ∀ w', Keeps [] w w' → Calls Tryz.prog 54 #[.slice A n cap] w' fun e w2 => ∃ Ar c, e = .returned (.slice Ar n c) ∧ RowsIn w2 (fun y => w.heap.size ≤ y) Ar rs ∧ Keeps [] w' w2)
    (hcom : ∀ w' Ar c, Keeps [] w w' → RowsIn w' (fun y => w.heap.size ≤ y) Ar rs → Calls Tryz.prog 53 #[.pointer (some ⟨lp, 0, none⟩), .slice Ar n c] w' fun e w2 => ∃ m : Nat, e = .returned (.int .i64 (m : Int)) ∧ R m w2 ∧ Keeps S w' w2)
    (htold : ∀ w' m, R m w' → Calls Tryz.prog 52 #[.pointer (some ⟨sp, 1, none⟩), .int .i64 (m : Int)] w' fun e w2 => e = .returned (.int .i64 (m : Int)) ∧ T m w2 ∧ Keeps S w' w2) :
    Calls Tryz.prog 31 #[.pointer (some ⟨sp, 1, none⟩), .slice A n cap] w fun e w' => ∃ m : Nat, e = .returned (.int .i64 (m : Int)) ∧ T m w' ∧ Keeps S w w' := by
  have HC1 := Lib.hid h.c1
  have HREC := Lib.hid hrec
  have HCOM := Lib.hid hcom
  have HTOLD := Lib.hid htold
  have HR := Lib.hid hR
  have HT := Lib.hid hT
  have HS := Lib.hid hS
  clear h hrec hcom htold hR hT hsp hS
  go_enter Tryz.func31, Tryz.ntmps31
  go_wp2_with fail
  refine Reg.wp_region_free (A := ?A) (CA S w R T) (GA S)
    [Is (.pointer (some ⟨sp, 1, none⟩)), Is (.pointer (some ⟨sp, 1, none⟩)), Is (.pointer (some ⟨sp, 1, none⟩)), Is (.pointer (some ⟨sp, 1, none⟩)), Is (.pointer (some ⟨lp, 0, none⟩)), Is (.slice A n cap), RecF w.heap.size n rs, fun _ _ => True, fun _ _ => True, fun _ _ => True]
    (by kernel_rfl) (by kernel_rfl) rfl ?hA ?hC ?ho ?hlast ?hend
  case hA => intro vs; simp only [Reg.fill, if_true, Nat.zero_add, Nat.reduceAdd, Act.put, List.setIfInBounds_toArray, List.set_cons_succ, List.set_cons_zero]; exact rfl
  case hC => exact fun vs => ⟨(Keeps.refl _ _).drew, fun _ => (Keeps.refl _ _).drew, by simp, by simp, by simp⟩
  case hlast => repeat (first | exact trivial | refine ⟨Is.lastA, ?_⟩ | refine ⟨RecF.last HS.out, ?_⟩ | refine ⟨fun _ _ _ _ _ => trivial, ?_⟩)
  case ho =>
    repeat' apply And.intro
    all_goals
      first
        | exact trivial
        | (intro L vs w' hC hL hd ha K hK
           try simp only [Reg.Deps, Reg.at_, List.getD_cons_zero, List.getD_cons_succ, Region.binds, true_implies, Is, and_true] at hd
           try simp only [Reg.Aw, Region.binds, true_implies, and_true] at ha
           go_simp
           first
             | exact hK _ _ (hC.lay (by decide) (Keeps.refl _ _) HR.out HT.out) (Keeps.refl _ _) rfl
             | skip)
    · have h7 : L 7 = false := by
        cases h : L 7 with
        | false => rfl
        | true => have := (hC.2.2.2.2.2.1 h).1; rw [hL] at this; cases this
      rw [(hC.2.1 h7).cell_some HC1.out (by simp)]
      exact hK _ _ (hC.lay (by decide) (Keeps.refl _ _) HR.out HT.out) (Keeps.refl _ _) rfl
    · have h7 : L 7 = false := by
        cases h : L 7 with
        | false => rfl
        | true => have := (hC.2.2.2.2.2.1 h).2; rw [hL] at this; cases this
      refine (HREC.out _ (hC.2.1 h7)).mono ?_
      rintro e w2 ⟨Ar, c, rfl, hrow, hk⟩
      exact ⟨_, rfl, hK _ _ (hC.lay (by decide) hk HR.out HT.out) (hk.mono (by simp)) ⟨Ar, c, rfl, hrow⟩⟩
    · obtain ⟨-, ⟨Ar, c, hv, hrow⟩, -⟩ := hd
      rw [hv]
      refine (HCOM.out _ Ar c (hC.2.1 hL) hrow).mono ?_
      rintro e w2 ⟨m, rfl, hr, hk⟩
      exact ⟨_, rfl, hK _ _ (hC.seven hL ⟨ha.1, ha.2.1⟩ hk hr) hk trivial⟩
    · obtain ⟨m, hv, hr⟩ := hC.2.2.1 ha.2.1 hL
      rw [hv]
      refine (HTOLD.out _ m hr).mono ?_
      rintro e w2 ⟨rfl, ht, hk⟩
      exact ⟨_, rfl, hK _ _ (hC.eight ha.2.1 hL hk ht) hk trivial⟩
    · exact hK _ _ (hC.nine ha.1 (hC.2.2.2.2.2.2.1 ha.1)) (Keeps.refl _ _) trivial
  case hend =>
    intro vs w2 hC hall
    obtain ⟨m, hv, ht⟩ := hC.2.2.2.2.1 rfl
    have HTT := Lib.hid ht
    have HKK := Lib.hid hC.1
    have HV := Lib.hid hv
    clear hC hall ht hv
    rw [HV.out]
    go_wp2_with fail
    go_ret
    exact ⟨m, rfl, HTT.out, HKK.out⟩
end Go.Proofs.YtbanpdeganlndaaGreatDoor
namespace Go.Proofs.YtbanpdeganlndaaGreatDoor
open Go.RowKit
open St (Tx As Ch)

/-- A change that was done, or for which there was no power. -/
def DoneP (sp mb lp : Nat) (l l' : As) (T0 T32 : World → Prop) (m : Nat) (w : World) : Prop :=
  (m = 0 ∧ StAt w sp mb lp false l' ∧ T0 w) ∨ (m = 32 ∧ StAt w sp mb lp true l ∧ T32 w)
set_option maxHeartbeats 1000000 in
theorem apply_down (w : World) (sp mb lp : Nat) (l : As) (v : Value) (h : StAt w sp mb lp true l) :
    Calls Tryz.prog 14 #[.pointer (some ⟨sp, 0, none⟩), v] w fun e w' => e = .returned (.int .i64 32) ∧ w = w' := by
  have h2 := h.c2
  clear h
  go_enter Tryz.func14, Tryz.ntmps14
  go_wp2_with fail
  go_ret
  exact ⟨rfl, rfl⟩
set_option maxHeartbeats 1000000 in
theorem compact_down (w : World) (sp mb lp : Nat) (l : As) (h : StAt w sp mb lp true l) :
    Calls Tryz.prog 13 #[.pointer (some ⟨sp, 0, none⟩)] w fun e w' => e = .returned (.int .i64 32) ∧ w = w' := by
  have h2 := h.c2
  clear h
  go_enter Tryz.func13, Tryz.ntmps13
  go_wp2_with fail
  go_ret
  exact ⟨rfl, rfl⟩
set_option maxHeartbeats 4000000 in
set_option maxRecDepth 100000 in
theorem apply_gen (w : World) (S : List Nat) (sp mb lp : Nat) (l : As) (g : Nat) (A : Option Addr) (cs : List Ch) (cap : Nat) (T0 T32 : World → Prop) (h : StAt w sp mb lp false l) (hp : PairsIn w g A cs) (hg : cs = [] ∨ (g ∉ S ∧ g ≠ mb))
    (hs : ∀ c ∈ cs, c.size ≤ 1048512) (hl : cs.length ≤ 100000) (hll : l.length ≤ 1000000)
    (hadd : ∀ w', Keeps [] w w' → Calls Tryz.prog 35 #[.pointer (some ⟨sp, 1, none⟩), .slice A cs.length cap] w' fun e w2 => ∃ m : Nat, e = .returned (.int .i64 (m : Int)) ∧ DoneP sp mb lp l l T0 T32 m w2 ∧ Keeps S w' w2)
    (h0 : ∀ w1 w2, T0 w1 → Keeps [mb] w1 w2 → T0 w2) :
    Calls Tryz.prog 14 #[.pointer (some ⟨sp, 0, none⟩), .slice A cs.length cap] w fun e w' => ∃ m : Nat, e = .returned (.int .i64 (m : Int)) ∧ DoneP sp mb lp l (St.apps l cs) T0 T32 m w' ∧ Keeps (mb :: S) w w' := by
  have h2 := h.c2
  have HST := Lib.hid h
  have HP := Lib.hid hp
  have HG := Lib.hid hg
  have HS := Lib.hid hs
  have HA := Lib.hid hadd
  have H0 := Lib.hid h0
  have HCO := Lib.hid (contains_no w g A cs cap hp hs (by omega))
  clear h hp hg hs hadd h0
  go_enter Tryz.func14, Tryz.ntmps14
  go_wp2_with fail
  refine HCO.out.mono ?_
  rintro e w1 ⟨rfl, hk1⟩
  have HADD := Lib.hid (HA.out w1 hk1)
  have HK1 := Lib.hid hk1
  clear hk1 h2
  go_wp2_with fail
  refine HADD.out.mono ?_
  rintro e w2 ⟨m, rfl, hd, hk2⟩
  have HK2 := Lib.hid (show Keeps (mb :: S) w w2 from ((HK1.out.mono (T := S) (by simp)).trans hk2 (fun _ hi _ => hi)).mono (fun i hi _ => by simp [hi]))
  rcases hd with ⟨rfl, hst, ht⟩ | ⟨rfl, hst, ht⟩
  · have c0 := hst.c0
    have HT := Lib.hid ht
    have HP2 := Lib.hid (show ∃ g', PairsIn w2 g' A cs ∧ g' ≠ mb from by
      rcases HG.out with h | ⟨h1, h2⟩
      · exact ⟨mb + 1, .inl h, by omega⟩
      · exact ⟨g, (HP.out.keep HK1.out (by simp)).keep hk2 h1, h2⟩)
    obtain ⟨g', hp2, hg2⟩ := HP2.out
    have HCH := Lib.hid (change_any' w2 mb l hst.map g' A cs cap hp2 hg2 HS.out hl hll)
    have HST2 := Lib.hid hst
    clear hst ht hp2 hk2
    go_wp2_with fail
    refine HCH.out.mono ?_
    rintro e w3 ⟨rfl, hm, hk3⟩
    have HM := Lib.hid hm
    have HK3 := Lib.hid hk3
    clear hm hk3
    go_wp2_with fail
    go_ret
    refine ⟨0, rfl, .inl ⟨rfl, ⟨block_keep HST2.out.box HK3.out (by simpa using HST2.out.ne), HM.out⟩, H0.out _ _ HT.out HK3.out⟩, HK2.out.trans HK3.out (fun i hi _ => by simp at hi ⊢; exact .inl hi)⟩
  · have HT := Lib.hid ht
    have HST2 := Lib.hid hst
    clear hst ht hk2
    go_wp2_with fail
    go_ret
    exact ⟨32, rfl, .inr ⟨rfl, HST2.out, HT.out⟩, HK2.out⟩
end Go.Proofs.YtbanpdeganlndaaGreatDoor
namespace Go.Proofs.YtbanpdeganlndaaGreatDoor
open Go.RowKit
open St (Tx As Ch)

theorem dec_tag (r : Tx) : Cd.M.decText (Cd.M.encText St.tag ++ r) = some (St.tag, r) := Cd.M.decText_back (by decide) r
/-- What pair answers of a pair's record. -/
def PairP (w : World) (c : Ch) (e : Ending) (w' : World) : Prop := e = .returned (.tuple #[.agg #[.string (strO (St.trim c).key), .string (strO (St.trim c).val), .bool (St.trim c).gone], .int .i64 0]) ∧ Keeps [] w w'
set_option maxRecDepth 100000 in
set_option maxHeartbeats 4000000 in
theorem pair_any (w : World) (g : Nat) (A : Option Addr) (c : Ch) (cap : Nat) (hr : BytesIn w g A (St.rec c)) (hs : c.size ≤ 1048512) :
    Calls Tryz.prog 29 #[.slice A (St.rec c).length cap] w (PairP w c) := by
  have hrl := St.rec_len (c := c) (by omega)
  have hs1 : c.key.length + c.val.length ≤ 1048512 := hs
  obtain ⟨key, val, gone⟩ := c
  simp only at hs1
  obtain ⟨r3, hr3⟩ : ∃ r, r = if gone then [] else Cd.M.encText val := ⟨_, rfl⟩
  obtain ⟨r2, hr2⟩ : ∃ r, r = Cd.M.encBool gone ++ r3 := ⟨_, rfl⟩
  obtain ⟨r1, hr1⟩ : ∃ r, r = Cd.M.encText key ++ r2 := ⟨_, rfl⟩
  have hR : St.rec ⟨key, val, gone⟩ = Cd.M.encText St.tag ++ r1 := by rw [hr1, hr2, hr3]; rfl
  have HD1 := Lib.hid (show Cd.M.decText (St.rec ⟨key, val, gone⟩) = some (St.tag, r1) by rw [hR]; exact dec_tag r1)
  have HD2 := Lib.hid (show Cd.M.decText r1 = some (key, r2) by rw [hr1]; exact Cd.M.decText_back (by omega) r2)
  have HB2 := Lib.hid (show r2 = (if gone then 1 else 0) :: r3 by rw [hr2]; rfl)
  have HR3 := Lib.hid hr3
  have HD3 := Lib.hid (show gone = false → Cd.M.decText r3 = some (val, []) by
    intro hg
    rw [hr3, hg]
    have := Cd.M.decText_back (s := val) (by omega) []
    simpa using this)
  have HTR := Lib.hid (show St.trim ⟨key, val, gone⟩ = if gone then ⟨key, [], true⟩ else ⟨key, val, gone⟩ from rfl)
  have HNR := Lib.hid (fun w' (hk : Keeps [] w w') => Cd.newReader_any w' g A (St.rec ⟨key, val, gone⟩) cap (hr.keep hk (by simp)) (by omega))
  obtain ⟨L, hL⟩ : ∃ L, L = St.rec ⟨key, val, gone⟩ := ⟨_, rfl⟩
  rw [← hL] at HD1 HNR
  rw [← hL]
  obtain ⟨ka, hka⟩ : ∃ a, a = strO key := ⟨_, rfl⟩
  have HKA := Lib.hid hka
  have HK0 := Lib.hid ((Keeps.refl [] w).alloc (.cells #[.string ⟨#[]⟩, .string ⟨#[]⟩, .bool false] 66))
  have HX := Lib.hid (heap_alloc_new w (.cells #[.string ⟨#[]⟩, .string ⟨#[]⟩, .bool false] 66))
  clear hr hrl hs hs1 hr3 hr2 hr1 hR hL hka
  go_enter Tryz.func29, Tryz.ntmps29
  go_wp2_with fail
  refine (HNR.out _ HK0.out).mono ?_
  rintro e w1 ⟨p, gr, rfl, hrd, hp, hgr, hk1⟩
  have HRD := Lib.hid (Cd.Text_gave w1 p gr L r1 (.string ⟨#[112, 97, 105, 114]⟩) hrd (fun w' h => Cd.text_ok h HD1.out))
  have HK1 := Lib.hid (HK0.out.trans hk1 (by simp))
  have HX1 := Lib.hid (block_keep HX.out hk1 (by simp))
  have HP : Hid (w.heap.size < p ∧ w.heap.size < gr) := Lib.hid (by simp at hp hgr; omega)
  have HGL : Hid (gr < w1.heap.size) := Lib.hid (by
    obtain ⟨Ar, cr, _, h2, _⟩ := hrd
    refine h2.lt ?_
    cases hLL : L with
    | nil => have := HD1.out; rw [hLL] at this; cases this
    | cons a b => simp)
  clear hrd hp hgr hk1 HNR
  go_wp2_with fail
  refine HRD.out.mono ?_
  rintro e w2 ⟨rfl, hrd, hk2⟩
  have HRD2 := Lib.hid (Cd.Text_gave w2 p gr r1 r2 (.string (strO key)) hrd (fun w' h => Cd.text_ok h HD2.out))
  have HK2 := Lib.hid (HK1.out.fresh hk2 (by have := HP.out; simp; omega))
  have HX2 := Lib.hid (block_keep HX1.out hk2 (by have := HP.out; simp; omega))
  have HK2S := Lib.hid hk2.size
  clear hrd hk2
  rw [← HKA.out] at HRD2
  go_wp2_with fail
  refine HRD2.out.mono ?_
  rintro e w3 ⟨rfl, hrd, hk3⟩
  have hs23 : w.heap.size < w3.heap.size := by have := block_lt HX2.out; have := hk3.size; omega
  have hgl3 : gr < w3.heap.size := by have := HGL.out; have := HK2S.out; have := hk3.size; omega
  have HK3 := Lib.hid (HK2.out.fresh hk3 (by have := HP.out; simp; omega))
  have HX3 := Lib.hid (block_keep HX2.out hk3 (by have := HP.out; simp; omega))
  have hkb : Keeps [] w3 (w3.alloc (.cells #[.string ka, .string ⟨#[]⟩, .bool false] 66)) := (Keeps.refl _ _).alloc _
  have HKB := Lib.hid hkb
  have HRD3 := Lib.hid (Cd.Bool_gave (w3.alloc (.cells #[.string ka, .string ⟨#[]⟩, .bool false] 66)) p gr r2 r3 (.bool gone) (hrd.keep hkb (by simp) (by simp)) (fun w' h => by
    rw [HB2.out] at h
    have := Cd.flag_ok h (by cases gone <;> decide)
    cases gone <;> exact this))
  have hpl : p < w3.heap.size := hrd.lt
  have HPX := Lib.hid (heap_alloc_new w3 (.cells #[.string ka, .string ⟨#[]⟩, .bool false] 66))
  obtain ⟨W3, hW3⟩ : ∃ n, n = w3.heap.size := ⟨_, rfl⟩
  rw [← hW3] at hs23 hpl hgl3
  have HGL3 := Lib.hid hgl3
  have HPL := Lib.hid hpl
  have HS23 := Lib.hid hs23
  have HW3 := Lib.hid hW3
  clear hrd hk3 hkb hpl hs23 hgl3 hW3
  go_wp2_with fail
  refine HRD3.out.mono ?_
  rintro e w4 ⟨rfl, hrd, hk4⟩
  have hpx4 : w4.heap[w3.heap.size]? = some (.cells #[.string ka, .string ⟨#[]⟩, .bool false] 66 (0, 0)) := block_keep HPX.out hk4 (by have := HPL.out; have := HW3.out; simp; omega)
  have hf4 := row_free hpx4 2
  have hd2 : w4.cell? ⟨w3.heap.size, 2, none⟩ = some (.bool false) := by rw [row_cell hpx4]; rfl
  have hset := row_set hpx4 2 (.bool gone)
  have hks : Keeps [w3.heap.size] w4 (w4.setCell ⟨w3.heap.size, 2, none⟩ (.bool gone)) := (Keeps.refl _ _).setCell (by simp) _
  have hc2 : (w4.setCell ⟨w3.heap.size, 2, none⟩ (.bool gone)).cell? ⟨w3.heap.size, 2, none⟩ = some (.bool gone) := by rw [row_cell hset]; rfl
  have hx4 := block_keep HX3.out (HKB.out) (by simp)
  have hx4 := block_keep hx4 hk4 (by have := HP.out; simp; omega)
  have hx4 := block_keep hx4 hks (by have := HS23.out; have := HW3.out; simp; omega)
  have HK4 := Lib.hid (((HK3.out.trans HKB.out (by simp)).fresh hk4 (by have := HP.out; simp; omega)).fresh hks (by have := HS23.out; have := HW3.out; simp; omega))
  have HX4 := Lib.hid hx4
  have HSET := Lib.hid hset
  have HRD4 := Lib.hid (hrd.keep hks (by have := HPL.out; have := HW3.out; simp; omega) (by have := HGL3.out; have := HW3.out; simp; omega))
  clear hrd hk4 hpx4 hset hks hx4
  have hne : w.heap.size ≠ w3.heap.size := by have := HS23.out; have := HW3.out; omega
  cases gone with
  | true =>
    have h30 : r3 = [] := by rw [HR3.out]; rfl
    have HDO := Lib.hid (fun w' h => Cd.done_any w' p gr r3 false h)
    have HRD5 := Lib.hid (HDO.out _ HRD4.out)
    have e9 : Cd.doneNum r3 false = 0 := by rw [h30]; rfl
    rw [e9] at HRD5
    clear h30 e9 HDO
    go_wp2_with fail
    refine HRD5.out.mono ?_
    rintro e w5 ⟨rfl, hw5⟩
    have hx5 := HX4.out
    rw [hw5] at hx5
    have hp5 := HSET.out
    rw [hw5] at hp5
    have HK5 : Hid (Keeps [] w w5) := Lib.hid (by rw [← hw5]; exact HK4.out)
    have g0 : w5.cell? ⟨w3.heap.size, 0, none⟩ = some (.string ka) := by rw [row_cell hp5]; rfl
    have g1 : w5.cell? ⟨w3.heap.size, 1, none⟩ = some (.string ⟨#[]⟩) := by rw [row_cell hp5]; rfl
    have g2 : w5.cell? ⟨w3.heap.size, 2, none⟩ = some (.bool true) := by rw [row_cell hp5]; rfl
    have b0 : w5.cell? ⟨w.heap.size, 0, none⟩ = some (.string ⟨#[]⟩) := by rw [row_cell hx5]; rfl
    have b1 : w5.cell? ⟨w.heap.size, 1, none⟩ = some (.string ⟨#[]⟩) := by rw [row_cell hx5]; rfl
    have b2 : w5.cell? ⟨w.heap.size, 2, none⟩ = some (.bool false) := by rw [row_cell hx5]; rfl
    have f0 := row_free hx5 0
    have f1 := row_free hx5 1
    have f2 := row_free hx5 2
    have HX5 := Lib.hid hx5
    clear hx5 hp5 hw5 hc2 hd2 hf4 HRD5 HRD4
    go_wp2_with fail
    have hfin := ((Keeps.refl [w.heap.size] w5).setCell (p := ⟨w.heap.size, 0, none⟩) (by simp) (.string ka)).setCell (p := ⟨w.heap.size, 1, none⟩) (by simp) (.string ⟨#[]⟩)
    refine bodyPost_ret (v := .tuple #[.agg #[.string ka, .string ⟨#[]⟩, .bool true], .int .i64 0]) (by simp [results, Tryz.results29, go_sem, b0, b1, b2]) rfl ⟨?_, ?_⟩
    · rw [HTR.out, HKA.out]; rfl
    · exact HK5.out.fresh (hfin.setCell (p := ⟨w.heap.size, 2, none⟩) (by simp) (.bool true)) (by simp)
  | false =>
    have HRD5 := Lib.hid (Cd.Text_gave _ p gr r3 [] (.string (strO val)) HRD4.out (fun w' h => Cd.text_ok h (HD3.out rfl)))
    obtain ⟨va, hva⟩ : ∃ a, a = strO val := ⟨_, rfl⟩
    rw [← hva] at HRD5
    have HVA := Lib.hid hva
    clear hva
    go_wp2_with fail
    refine HRD5.out.mono ?_
    rintro e w5 ⟨rfl, hrd, hk5⟩
    have hx5 := block_keep HX4.out hk5 (by have := HP.out; simp; omega)
    have hp5 := block_keep HSET.out hk5 (by have := HPL.out; have := HW3.out; simp; omega)
    have hf5 := row_free hp5 1
    have hc5 : w5.cell? ⟨w3.heap.size, 1, none⟩ = some (.string ⟨#[]⟩) := by rw [row_cell hp5]; rfl
    have hset5 := row_set hp5 1 (.string va)
    have hks5 : Keeps [w3.heap.size] w5 (w5.setCell ⟨w3.heap.size, 1, none⟩ (.string va)) := (Keeps.refl _ _).setCell (by simp) _
    have HX6 := Lib.hid (block_keep hx5 hks5 (by have := HS23.out; have := HW3.out; simp; omega))
    have HSET6 := Lib.hid hset5
    have HK6 := Lib.hid ((HK4.out.fresh hk5 (by have := HP.out; simp; omega)).fresh hks5 (by have := HS23.out; have := HW3.out; simp; omega))
    have HDO := Lib.hid (Cd.done_any _ p gr [] false (hrd.keep hks5 (by have := HPL.out; have := HW3.out; simp; omega) (by have := HGL3.out; have := HW3.out; simp; omega)))
    have e9 : Cd.doneNum [] false = 0 := rfl
    rw [e9] at HDO
    clear hrd hk5 hx5 hp5 hset5 hks5 e9 hc2 hd2 hf4 HRD4 HRD5
    go_wp2_with fail
    refine HDO.out.mono ?_
    rintro e w6 ⟨rfl, hw6⟩
    have hx6 := HX6.out
    rw [hw6] at hx6
    have hp6 := HSET6.out
    rw [hw6] at hp6
    have HK7 : Hid (Keeps [] w w6) := Lib.hid (by rw [← hw6]; exact HK6.out)
    have g0 : w6.cell? ⟨w3.heap.size, 0, none⟩ = some (.string ka) := by rw [row_cell hp6]; rfl
    have g1 : w6.cell? ⟨w3.heap.size, 1, none⟩ = some (.string va) := by rw [row_cell hp6]; rfl
    have g2 : w6.cell? ⟨w3.heap.size, 2, none⟩ = some (.bool false) := by rw [row_cell hp6]; rfl
    have b0 : w6.cell? ⟨w.heap.size, 0, none⟩ = some (.string ⟨#[]⟩) := by rw [row_cell hx6]; rfl
    have b1 : w6.cell? ⟨w.heap.size, 1, none⟩ = some (.string ⟨#[]⟩) := by rw [row_cell hx6]; rfl
    have b2 : w6.cell? ⟨w.heap.size, 2, none⟩ = some (.bool false) := by rw [row_cell hx6]; rfl
    have f0 := row_free hx6 0
    have f1 := row_free hx6 1
    have f2 := row_free hx6 2
    clear hx6 hp6 hw6 hc5 hf5 HDO
    go_wp2_with fail
    have hfin := ((Keeps.refl [w.heap.size] w6).setCell (p := ⟨w.heap.size, 0, none⟩) (by simp) (.string ka)).setCell (p := ⟨w.heap.size, 1, none⟩) (by simp) (.string va)
    refine bodyPost_ret (v := .tuple #[.agg #[.string ka, .string va, .bool false], .int .i64 0]) (by simp [results, Tryz.results29, go_sem, b0, b1, b2]) rfl ⟨?_, ?_⟩
    · rw [HTR.out, HKA.out, HVA.out]; rfl
    · exact HK7.out.fresh (hfin.setCell (p := ⟨w.heap.size, 2, none⟩) (by simp) (.bool false)) (by simp)
end Go.Proofs.YtbanpdeganlndaaGreatDoor
