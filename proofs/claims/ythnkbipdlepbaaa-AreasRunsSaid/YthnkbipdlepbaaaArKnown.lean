/-
  areas: the known case, for whatever areas.
-/
import Derived.Test.YthnkbipdlepbaaaArOk
namespace Go.Proofs.Ythnkbipdlepbaaa
open Go.RowKit Go
section
variable {IsA : Thg → Nat → (Nat → Nat) → Prop} (ok : AreasOk IsA)
include ok
set_option maxRecDepth 100000 in
set_option maxHeartbeats 4000000 in
theorem known_any (w : World) : Calls Try.prog 10 #[] w fun e w' => e = .returned (.bool true) ∧ Below w.heap.size w w' := by
  obtain ⟨a1, a2, a3, a4⟩ := kn1
  obtain ⟨b1, b2, b3, b4⟩ := kn2
  have A1 := Lib.hid a1
  have A2 := Lib.hid a2
  have A3 := Lib.hid a3
  have A4 := Lib.hid a4
  have B1 := Lib.hid b1
  have B2 := Lib.hid b2
  have B3 := Lib.hid b3
  have B4 := Lib.hid b4
  clear a1 a2 a3 a4 b1 b2 b3 b4
  go_enter Try.func10, Try.ntmps10
  go_wp2_with (fail)
  refine (new_ak ok w).mono ?_
  rintro e w1 ⟨d, rfl, hK⟩
  have HK := Lib.hid hK
  clear hK
  go_wp2_with (fail)
  refine (map_akI ok HK.out 0 4 3 3 rfl ⟨by decide, by decide⟩).mono ?_
  rw [A1.out]
  rintro e w2 ⟨rfl, hK⟩
  have HK2 := Lib.hid hK
  clear hK HK A1
  go_wp2_with (fail)
  refine (map_akI ok HK2.out 4 2 3 3 rfl ⟨by decide, by decide⟩).mono ?_
  rw [A2.out]
  rintro e w3 ⟨rfl, hK⟩
  have HK3 := Lib.hid hK
  clear hK HK2 A2
  go_wp2_with (fail)
  refine (len_ak ok HK3.out).mono ?_
  rw [A3.out]
  rintro e w4 ⟨rfl, hK⟩
  have HK4 := Lib.hid (HK3.out.later hK)
  clear hK HK3 A3
  go_wp2_with (fail)
  refine (protect_akI ok HK4.out 1 2 1 1 rfl ⟨by decide, by decide⟩).mono ?_
  rw [A4.out]
  rintro e w5 ⟨rfl, hK⟩
  have HK5 := Lib.hid hK
  clear hK HK4 A4
  go_wp2_with (fail)
  refine (rights_ak ok HK5.out 2).mono ?_
  rw [B1.out]
  rintro e w6 ⟨rfl, hK⟩
  have HK6 := Lib.hid (HK5.out.later hK)
  clear hK HK5 B1
  go_wp2_with (fail)
  refine (rights_ak ok HK6.out 6).mono ?_
  rw [B2.out]
  rintro e w7 ⟨rfl, hK⟩
  have HK7 := Lib.hid (HK6.out.later hK)
  clear hK HK6 B2
  go_wp2_with (fail)
  refine (len_ak ok HK7.out).mono ?_
  rw [B3.out]
  rintro e w8 ⟨rfl, hK⟩
  have HK8 := Lib.hid (HK7.out.later hK)
  clear hK HK7 B3
  go_wp2_with (fail)
  refine (map_akI ok HK8.out 0 1 1 1 rfl ⟨by decide, by decide⟩).mono ?_
  rw [B4.out]
  rintro e w9 ⟨rfl, hK⟩
  have HK9 := Lib.hid hK
  clear hK HK8 B4
  go_wp2_with (fail)
  go_ret
  exact ⟨rfl, HK9.out.bel⟩
end
end Go.Proofs.Ythnkbipdlepbaaa
