/-
  handles: part, and Make.
-/
import Derived.Test.YtljdmhiamonokaaDoorHdFld
import Derived.Laws.BitsAllLaws
namespace Go.Proofs.YtljdmhiamonokaaDoor
open Go.RowKit Go

/-- What a number has in a field. -/
def fldN (k h : Nat) : Nat := if k = 0 then h % 32 else if k = 1 then h % 32768 / 32 else h / 32768
theorem wrap64u (n : Int) : IntKind.u64.wrap n = n % 18446744073709551616 := by simp [IntKind.wrap, IntKind.bits, IntKind.signed]
set_option maxRecDepth 100000 in
theorem part_any (k : Nat) (hk : k < 3) (h : Nat) (hh : h < 18446744073709551616) (w : World) (hg : BegAt w) :
    Calls Tryd.prog 14 #[.int .i64 k, .int .u64 h] w fun e w' => e = .returned (.int .u64 ((fldN k h : Nat) : Int)) ∧ w = w' := by
  have c0 := hg k (by omega)
  have c1 := hg (k + 1) (by omega)
  clear hg
  rcases (show k = 0 ∨ k = 1 ∨ k = 2 by omega) with rfl | rfl | rfl
  · rw [show ((fldN 0 h : Nat) : Int) = IntKind.u64.wrap (h * 576460752303423488) / 576460752303423488 by rw [wrap64u]; simp only [fldN]; simp; omega]
    simp only [begL, List.getD, List.getElem?_cons_succ, List.getElem?_cons_zero, Option.getD_some] at c0 c1
    go_enter Tryd.func14, Tryd.ntmps14
    go_wp2_with (fail)
    go_ret
    exact ⟨rfl, rfl⟩
  · rw [show ((fldN 1 h : Nat) : Int) = IntKind.u64.wrap (h * 562949953421312) / 18014398509481984 by rw [wrap64u]; simp only [fldN]; simp; omega]
    simp only [begL, List.getD, List.getElem?_cons_succ, List.getElem?_cons_zero, Option.getD_some] at c0 c1
    go_enter Tryd.func14, Tryd.ntmps14
    go_wp2_with (fail)
    go_ret
    exact ⟨rfl, rfl⟩
  · rw [show ((fldN 2 h : Nat) : Int) = (h : Int) / 32768 by simp [fldN]]
    simp only [begL, List.getD, List.getElem?_cons_succ, List.getElem?_cons_zero, Option.getD_some] at c0 c1
    go_enter Tryd.func14, Tryd.ntmps14
    go_wp2_with (fail)
    go_ret
    exact ⟨rfl, rfl⟩

/-- What a turn and a place are told as. -/
def mkV (t : Nat) (f x : Int) : Int := if May t f x then (t : Int) * 32768 + f * 32 + x else 0
def mkE (t : Nat) (f x : Int) : Int := if May t f x then 0 else 2
theorem or_sum (a b : Nat) (i : Nat) (hb : b < 2 ^ i) : a * 2 ^ i ||| b = a * 2 ^ i + b := by
  have := Nat.shiftLeft_add_eq_or_of_lt hb a
  rw [Nat.shiftLeft_eq] at this
  exact this.symm
theorem or_two (t f : Nat) (ht : t ≤ 1099511627776) (hf : f < 1024) : bits .or .u64 ((t * 32768 : Nat) : Int) ((f * 32 : Nat) : Int) = ((t * 32768 + f * 32 : Nat) : Int) := by
  rw [u64_or_nat _ _ (by omega) (by omega)]
  congr 1
  exact or_sum t (f * 32) 15 (by omega)
theorem or_three (t f x : Nat) (ht : t ≤ 1099511627776) (hf : f < 1024) (hx : x < 32) : bits .or .u64 ((t * 32768 + f * 32 : Nat) : Int) (x : Int) = ((t * 32768 + f * 32 + x : Nat) : Int) := by
  rw [u64_or_nat _ _ (by omega) (by omega)]
  congr 1
  have := or_sum (t * 1024 + f) x 5 (by omega)
  rw [show t * 32768 + f * 32 = (t * 1024 + f) * 2 ^ 5 by omega]
  exact this
theorem put_fits (n s : Nat) (h : n * 2 ^ s < 18446744073709551616) : IntKind.u64.wrap ((n : Int) * 2 ^ s) = ((n * 2 ^ s : Nat) : Int) := by
  rw [wrap64u]
  have : ((n : Int) * 2 ^ s) = ((n * 2 ^ s : Nat) : Int) := by simp
  rw [this]
  omega
section
variable {w : World} (hg : BegAt w)
include hg
theorem put2_any (t : Nat) (ht : t ≤ 1099511627776) : Calls Tryd.prog 13 #[.int .i64 2, .int .u64 t] w fun e w' => e = .returned (.int .u64 ((t * 32768 : Nat) : Int)) ∧ w = w' :=
  (put_any 2 (by decide) t w hg 15 rfl).mono fun e w' ⟨h1, h2⟩ => ⟨by rw [h1]; exact congrArg (fun z => Ending.returned (.int .u64 z)) (put_fits t 15 (by omega)), h2⟩
theorem put1_any (f : Nat) (hf : f < 1024) : Calls Tryd.prog 13 #[.int .i64 1, .int .u64 f] w fun e w' => e = .returned (.int .u64 ((f * 32 : Nat) : Int)) ∧ w = w' :=
  (put_any 1 (by decide) f w hg 5 rfl).mono fun e w' ⟨h1, h2⟩ => ⟨by rw [h1]; exact congrArg (fun z => Ending.returned (.int .u64 z)) (put_fits f 5 (by omega)), h2⟩
theorem put0_any (x : Nat) (hx : x < 32) : Calls Tryd.prog 13 #[.int .i64 0, .int .u64 x] w fun e w' => e = .returned (.int .u64 (x : Int)) ∧ w = w' :=
  (put_any 0 (by decide) x w hg 0 rfl).mono fun e w' ⟨h1, h2⟩ => ⟨by rw [h1]; exact congrArg (fun z => Ending.returned (.int .u64 z)) ((put_fits x 0 (by omega)).trans (by simp)), h2⟩
end
def MadeP (w : World) (t : Nat) (f x : Int) (e : Ending) (w' : World) : Prop := e = .returned (.tuple #[.int .u64 (mkV t f x), .int .i64 (mkE t f x)]) ∧ Below w.heap.size w w'
end Go.Proofs.YtljdmhiamonokaaDoor
