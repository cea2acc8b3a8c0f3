/-
  locks' law: the known case.
-/
import Derived.Test.YtepapbecnadllaaLkHeld
namespace Go.Proofs.Ytepapbecnadllaa
open Go.RowKit Go

theorem try_is {w : World} {d n : Nat} {H : Nat → Int} (L : LkAt w d n H) (who l : Int) (b : Bool) (v : Int) (hb : tryB n H who l = b) (hv : tryE n H who l = v) :
    Calls Try.prog 13 #[.pointer (some ⟨d, 0, none⟩), .int .i64 who, .int .i64 l] w fun e w' => e = .returned (.tuple #[.bool b, .int .i64 v]) ∧ LkAt w' d n (if b = true then updH H l.toNat who else H) ∧ Only (Eq d) w w' := by
  subst hb; subst hv; exact try_at L who l
theorem free_is {w : World} {d n : Nat} {H : Nat → Int} (L : LkAt w d n H) (who l : Int) (v : Int) (hv : freeE n H who l = v) :
    Calls Try.prog 15 #[.pointer (some ⟨d, 0, none⟩), .int .i64 who, .int .i64 l] w fun e w' => e = .returned (.int .i64 v) ∧ LkAt w' d n (if v = 0 then updH H l.toNat (-1) else H) ∧ Only (Eq d) w w' := by
  subst hv; exact free_at L who l
theorem holder_is {w : World} {d n : Nat} {H : Nat → Int} (L : LkAt w d n H) (l : Int) (v : Int) (hv : holdV n H l = v) :
    Calls Try.prog 18 #[.pointer (some ⟨d, 0, none⟩), .int .i64 l] w fun e w' => e = .returned (.int .i64 v) ∧ w = w' := by
  subst hv; exact holder_at L l

theorem known_any (w : World) :
    Calls Try.prog 9 #[] w fun e w' => e = .returned (.bool true) ∧ Below w.heap.size w w' := by
  go_enter Try.func9, Try.ntmps9
  go_wp2_with (fail)
  refine (new_any 3 w).mono ?_
  rintro e w1 ⟨d, rfl, L, hd, hb⟩
  have HB1 := Lib.hid hb
  have H1 := Lib.hid L
  clear L hb
  go_wp2_with (fail)
  refine (try_is H1.out 0 1 true 0 (by kernel_rfl) (by kernel_rfl)).mono ?_
  rintro e w2 ⟨rfl, L, ho⟩
  have HB2 := Lib.hid (ho.below HB1.out HB1.out.size (fun k hk => by omega))
  have H2 := Lib.hid L
  clear L ho HB1 H1
  go_wp2_with (fail)
  refine (try_is H2.out 1 1 false 0 (by kernel_rfl) (by kernel_rfl)).mono ?_
  rintro e w3 ⟨rfl, L, ho⟩
  have HB3 := Lib.hid (ho.below HB2.out HB2.out.size (fun k hk => by omega))
  have H3 := Lib.hid L
  clear L ho HB2 H2
  go_wp2_with (fail)
  refine (try_is H3.out 0 0 false 50 (by kernel_rfl) (by kernel_rfl)).mono ?_
  rintro e w4 ⟨rfl, L, ho⟩
  have HB4 := Lib.hid (ho.below HB3.out HB3.out.size (fun k hk => by omega))
  have H4 := Lib.hid L
  clear L ho HB3 H3
  go_wp2_with (fail)
  refine (holder_is H4.out 1 0 (by kernel_rfl)).mono ?_
  rintro e w' ⟨rfl, rfl⟩
  go_wp2_with (fail)
  refine (free_is H4.out 0 1 0 (by kernel_rfl)).mono ?_
  rintro e w5 ⟨rfl, L, ho⟩
  have HB5 := Lib.hid (ho.below HB4.out HB4.out.size (fun k hk => by omega))
  have H5 := Lib.hid L
  clear L ho HB4 H4
  go_wp2_with (fail)
  refine (holder_is H5.out 1 (-1) (by kernel_rfl)).mono ?_
  rintro e w' ⟨rfl, rfl⟩
  go_wp2_with (fail)
  go_ret
  exact ⟨rfl, HB5.out⟩
end Go.Proofs.Ytepapbecnadllaa
