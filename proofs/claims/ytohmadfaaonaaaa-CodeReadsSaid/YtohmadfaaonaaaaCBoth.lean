/- Both readers' methods in one form: what the pure decoder says, in any state. -/
import Derived.Test.YtohmadfaaonaaaaCRmSw
namespace Go.Proofs.Ytohmadfaaonaaaa
open Go.RowKit

/-- What a method of the code's reader answers: R, or z where it can't. -/
def Ro {α : Type} (R : Option (α × List UInt8)) (val : α → Value) (z : Value) (p g : Nat) (w : World) (e : Ending) (w' : World) : Prop :=
  match R with
  | some (a, r) => Gave (val a) r p g w e w'
  | none => Gone z p g w e w'
theorem rNum (w : World) (p g : Nat) (f : Bool) (l : List UInt8) (hr : RdAt w p g l f) : Calls Try.prog 22 #[.pointer (some ⟨p, 0, none⟩)] w (Ro (M.opt f (M.dec 0 0 l)) (fun n => .int .u64 (n : Int)) (.int .u64 0) p g w) := by
  cases f with
  | true => exact Num_gone w p g l hr
  | false =>
    show Calls _ _ _ _ (Ro (M.dec 0 0 l) _ _ _ _ _)
    cases hd : M.dec 0 0 l with
    | none => exact Num_fell w p g l hr (fun w1 h => num_bad h hd)
    | some x => obtain ⟨n, r⟩ := x; exact Num_gave w p g l r _ hr (fun w1 h => num_ok h hd)
theorem rInt (w : World) (p g : Nat) (f : Bool) (l : List UInt8) (hr : RdAt w p g l f) : Calls Try.prog 24 #[.pointer (some ⟨p, 0, none⟩)] w (Ro (M.opt f (M.decInt l)) (fun z => .int .i64 z) (.int .i64 0) p g w) := by
  cases f with
  | true => exact Int_gone w p g l hr
  | false =>
    show Calls _ _ _ _ (Ro (M.decInt l) _ _ _ _ _)
    cases hd : M.decInt l with
    | none => exact Int_fell w p g l hr (fun w1 h => Out.fell (int_out w1 p g false l h) hd)
    | some x => obtain ⟨n, r⟩ := x; exact Int_gave w p g l r _ hr (fun w1 h => Out.took (int_out w1 p g false l h) hd)
theorem rText (w : World) (p g : Nat) (f : Bool) (l : List UInt8) (hr : RdAt w p g l f) : Calls Try.prog 26 #[.pointer (some ⟨p, 0, none⟩)] w (Ro (M.opt f (M.decStr l)) (fun s => .string s) (.string .empty) p g w) := by
  cases f with
  | true => exact Text_gone w p g l hr
  | false =>
    show Calls _ _ _ _ (Ro (M.decStr l) _ _ _ _ _)
    cases hd : M.decStr l with
    | none => exact Text_fell w p g l hr (fun w1 h => Out.fell (str_out w1 p g false l h) hd)
    | some x => obtain ⟨n, r⟩ := x; exact Text_gave w p g l r _ hr (fun w1 h => Out.took (str_out w1 p g false l h) hd)
theorem rBool (w : World) (p g : Nat) (f : Bool) (l : List UInt8) (hr : RdAt w p g l f) : Calls Try.prog 28 #[.pointer (some ⟨p, 0, none⟩)] w (Ro (M.opt f (M.decBool l)) (fun b => .bool b) (.bool false) p g w) := by
  cases f with
  | true => exact Bool_gone w p g l hr
  | false =>
    show Calls _ _ _ _ (Ro (M.decBool l) _ _ _ _ _)
    cases hd : M.decBool l with
    | none => exact Bool_fell w p g l hr (fun w1 h => Out.fell (flag_out w1 p g false l h) hd)
    | some x => obtain ⟨n, r⟩ := x; exact Bool_gave w p g l r _ hr (fun w1 h => Out.took (flag_out w1 p g false l h) hd)
/-- .. and of the code's Summary. -/
def RoS (R : Option (Sm × List UInt8)) (p g : Nat) (w : World) (e : Ending) (w' : World) : Prop :=
  match R with
  | some (s, r) => GaveS s r p g w e w'
  | none => Gone zeroSm p g w e w'
theorem rSummary (w : World) (p g : Nat) (f : Bool) (l : List UInt8) (hr : RdAt w p g l f) (hl : f = false → l.length ≤ 1000000000) : Calls Try.prog 31 #[.pointer (some ⟨p, 0, none⟩)] w (RoS (M.opt f (M.decSm l)) p g w) := by
  cases f with
  | true => exact Summary_gone w p g l hr
  | false =>
    show Calls _ _ _ _ (RoS (M.decSm l) _ _ _)
    cases hd : M.decSm l with
    | none => exact Summary_fell w p g l hr hd (hl rfl)
    | some x => obtain ⟨s, r⟩ := x; exact Summary_gave w p g l r s hr hd (hl rfl)
theorem mSummary (w : World) (m g : Nat) (f : Bool) (l : List UInt8) (hr : RmAt w m g l f) (hl : f = false → l.length ≤ 1000000000) : Calls Try.prog 32 #[.pointer (some ⟨m, 0, none⟩)] w (MoS (M.opt f (M.decSm l)) m g w) := by
  cases f with
  | true => exact mSummary_bad w m g true l hr hl rfl
  | false =>
    show Calls _ _ _ _ (MoS (M.decSm l) _ _ _)
    cases hd : M.decList M.decAl l with
    | none =>
      have e : M.decSm l = none := by unfold M.decSm; rw [hd]
      rw [e]
      exact mSummary_bad w m g false l hr hl hd
    | some x => obtain ⟨als, r⟩ := x; exact mSummary_ok w m g l als r hr (hl rfl) hd
end Go.Proofs.Ytohmadfaaonaaaa
