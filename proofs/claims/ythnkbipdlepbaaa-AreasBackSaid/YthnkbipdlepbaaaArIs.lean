/-
  areas: the landed areas are what the laws want.
-/
import Derived.Test.YthnkbipdlepbaaaArRuns
import Derived.Test.YthnkbipdlepbaaaArNone
namespace Go.Proofs.Ythnkbipdlepbaaa
open Go.RowKit Go.Shelf Go
attribute [local go_sem] Oper.semAt_some

theorem ar_ok : AreasOk IsAr where
  inv := fun h => h.2
  new := fun w => anew_any w
  map := fun p c r hp h hA => by
    obtain rfl := h.1
    exact amap_any h hA p c r hp
  unmap := fun p c hp h hA => by
    obtain rfl := h.1
    exact aunmap_any h hA p c hp
  protect := fun p c r hp h hA => by
    obtain rfl := h.1
    exact apro_any h hA p c r hp
  mapped := fun p c hp h hA => by
    obtain rfl := h.1
    exact ampd_any h hA p c hp
  rights := fun p h hA => by
    obtain rfl := h.1
    exact arights_any hA (runs_desc _ 1024) h.2.2.2 p
  len := fun h hA => by
    obtain rfl := h.1
    exact alen_any hA h.2.2.2
  copy := fun h hA => by
    obtain rfl := h.1
    exact acopy_any h hA
  runs := fun h hA => by
    obtain rfl := h.1
    exact aruns_any h hA
section
variable (w : World)
set_option maxRecDepth 100000 in
theorem askedFor_nil (p c r : Int) : Calls Try.prog 26 #[.pointer none, .int .i64 p, .int .i64 c, .int .u8 r] w fun e w' => e = .returned (.int .i64 1) ∧ w = w' := by
  go_enter Try.func26, Try.ntmps26
  go_wp2_with (fail)
  refine (asked_no w p c).mono ?_
  rintro e w1 ⟨rfl, rfl⟩
  go_wp2_with (fail)
  go_ret
  exact ⟨rfl, rfl⟩
set_option maxRecDepth 100000 in
theorem amap_no (p c r : Int) : Calls Try.prog 11 #[.pointer none, .int .i64 p, .int .i64 c, .int .u8 r] w fun e w' => e = .returned (.int .i64 1) ∧ Below w.heap.size w w' := by
  go_enter Try.func11, Try.ntmps11
  go_wp2_with (fail)
  refine (askedFor_nil w p c r).mono ?_
  rintro e w1 ⟨rfl, rfl⟩
  go_wp2_with (fail)
  go_ret
  exact ⟨rfl, Below.refl _ _⟩
set_option maxRecDepth 100000 in
theorem apro_no (p c r : Int) : Calls Try.prog 15 #[.pointer none, .int .i64 p, .int .i64 c, .int .u8 r] w fun e w' => e = .returned (.int .i64 1) ∧ Below w.heap.size w w' := by
  go_enter Try.func15, Try.ntmps15
  go_wp2_with (fail)
  refine (askedFor_nil w p c r).mono ?_
  rintro e w1 ⟨rfl, rfl⟩
  go_wp2_with (fail)
  go_ret
  exact ⟨rfl, Below.refl _ _⟩
set_option maxRecDepth 100000 in
theorem aunmap_no (p c : Int) : Calls Try.prog 13 #[.pointer none, .int .i64 p, .int .i64 c] w fun e w' => e = .returned (.int .i64 1) ∧ Below w.heap.size w w' := by
  go_enter Try.func13, Try.ntmps13
  go_wp2_with (fail)
  refine (asked_no w p c).mono ?_
  rintro e w1 ⟨rfl, rfl⟩
  go_wp2_with (fail)
  go_ret
  exact ⟨rfl, Below.refl _ _⟩
set_option maxRecDepth 100000 in
theorem ampd_no (p c : Int) : Calls Try.prog 17 #[.pointer none, .int .i64 p, .int .i64 c] w fun e w' => e = .returned (.int .i64 1) ∧ Below w.heap.size w w' := by
  go_enter Try.func17, Try.ntmps17
  go_wp2_with (fail)
  refine (asked_no w p c).mono ?_
  rintro e w1 ⟨rfl, rfl⟩
  go_wp2_with (fail)
  go_ret
  exact ⟨rfl, Below.refl _ _⟩
set_option maxRecDepth 100000 in
theorem alen_no : Calls Try.prog 24 #[.pointer none] w fun e w' => e = .returned (.int .i64 0) ∧ Below w.heap.size w w' := by
  go_enter Try.func24, Try.ntmps24
  go_wp2_with (fail)
  refine (aall_no w).mono ?_
  rintro e w1 ⟨rfl, rfl⟩
  go_wp2_with (fail)
  go_ret
  exact ⟨rfl, Below.refl _ _⟩
set_option maxRecDepth 100000 in
theorem arights_no (p : Int) : Calls Try.prog 19 #[.pointer none, .int .i64 p] w fun e w' => e = .returned (.tuple #[.int .u8 0, .bool false]) ∧ Below w.heap.size w w' := by
  go_enter Try.func19, Try.ntmps19
  go_wp2_with (fail)
  refine (aall_no w).mono ?_
  rintro e w1 ⟨rfl, rfl⟩
  have HB := Lib.hid (Below.refl w.heap.size w)
  go_wp2_with (fail)
  go_loopw [11] (fun i wr => i = .int .i64 0 ∧ Hid (Below w.heap.size w wr)) (fun _ _ => 0)
  case atStart => exact ⟨rfl, HB⟩
  case round =>
    obtain ⟨rfl, HBk⟩ := hrel
    go_wp2_with (fail)
    go_ret2
    exact ⟨rfl, HBk.out⟩
end
theorem ar_no : NoneOk IsAr zcA where
  map := amap_no
  unmap := aunmap_no
  protect := apro_no
  mapped := ampd_no
  rights := arights_no
  len := alen_no
  copy := acopy_no
  runs := aruns_no
  val := zero_areas
  zero := fun w => ⟨_, isAr_zero w.heap.size, by
    have h := isA_new (f := fun _ => 0) w (runs_zero 1024) (Nat.zero_le _)
    rw [rns, runs_zero] at h
    exact h, fun _ hk => hk⟩
end Go.Proofs.Ythnkbipdlepbaaa
