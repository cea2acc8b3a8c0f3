/-
  chain's law: the known case.
-/
import Derived.Test.YtifiecfkcikdmaaChOk
namespace Go.Proofs.Ytifiecfkcikdmaa
open Go.RowKit Go

theorem make_bytes : ∃ Z : Array Value, (∀ i, i < 256 → Z[i]? = some (byV (fun _ => 0) i)) ∧
    ∀ W, (Instr.makeSlice 22 (.int .i64 256) (.int .i64 256)).run Try.prog W = .ok (.slice (some ⟨W.heap.size, 0, none⟩) 256 256) (W.alloc (.cells Z 5)) := by
  obtain ⟨i0, hi, hz0, hz1, hz2⟩ := info_parts infoByte
  refine ⟨madeCells #[Value.int .u8 0] 256, fun i h => ?_, fun W => ?_⟩
  · have h1 := made_at #[Value.int .u8 0] 256 i h
    rw [Array.getElem?_toList] at h1
    have : i % (#[Value.int .u8 0] : Array Value).size = 0 := Nat.mod_one i
    rw [h1, this]; rfl
  · have h := run_make (P := Try.prog) W 22 5 i0 _ Try.underlying22 hi hz0 .i64 .i64 256 256 (by omega) (by omega) (by rw [hz2]; omega) (by omega)
    rw [hz1] at h
    exact h
def kn0 : Sl := Sl.new 24 16 (fun _ => 0)
def kn1 : Sl := kn0.take.2.2
def kn2 : Sl := kn1.take.2.2
def kn3 : Sl := (kn2.give 0).2
theorem kn_t0 : kn0.take = (0, 0, kn1) := by rfl
theorem kn_t1 : kn1.take = (1, 0, kn2) := by rfl
theorem kn_ch : kn2.ch = [2, 3, 4, 5, 6, 7, 8, 9] := by rfl
theorem kn_g : (kn2.give 0).1 = 0 := by decide +kernel
theorem kn_b : (kn3.bt 16).toNat = 2 := by decide +kernel
theorem kn_f : kn3.ch.length = 9 := by decide +kernel
theorem kn_n : kn2.n = 10 := by decide +kernel
section
variable {SlAt : World → SC → Sl → Prop}
set_option maxRecDepth 100000 in
set_option maxHeartbeats 4000000 in
theorem cknown_any (K : ChainOk SlAt) (w : World) :
    Calls Try.prog 9 #[] w fun e w' => e = .returned (.bool true) ∧ Below w.heap.size w w' := by
  obtain ⟨Z, hZ, hmk⟩ := make_bytes
  have HK := Lib.hid K
  have HZR := Lib.hid (RowAt.new w Z 5 256 _ hZ)
  have HB1 := Lib.hid ((Below.refl w.heap.size w).alloc (Nat.le_refl _) (.cells Z 5))
  clear K hZ
  go_enter Try.func9, Try.ntmps9
  go_wp2_with (fail)
  clear hmk
  generalize w.alloc (.cells Z 5) = w1 at *
  refine (HK.out.new 24 16 w.heap.size 256 _ w1 (by decide) (Nat.le_refl _) HZR.out).mono ?_
  intro e w2 hN
  obtain ⟨C, rfl, hCb, _, hL, _, _⟩ := LAt.new HB1.out HB1.out.size (Nat.le_refl _) hN
  have HL := Lib.hid (show LAt SlAt w.heap.size w C kn0 w2 from hL)
  clear hN hL
  go_wp2_with (fail)
  refine (HK.out.take HL.out.at_).mono ?_
  rintro e w3 ⟨rfl, hA, ho⟩
  rw [kn_t0] at hA ⊢
  have HL3 := Lib.hid (HL.out.turn hA ho)
  clear hA ho HL
  go_wp2_with (fail)
  refine (HK.out.take HL3.out.at_).mono ?_
  rintro e w4 ⟨rfl, hA, ho⟩
  rw [kn_t1] at hA ⊢
  have HL4 := Lib.hid (HL3.out.turn hA ho)
  clear hA ho HL3
  have HLT := Lib.hid (HK.out.lt HL4.out.at_)
  have HL5 := Lib.hid (HL4.out.later HK.out ((Below.refl w4.heap.size w4).alloc (Nat.le_refl _) (.cells #[] 3)))
  have HE5 := Lib.hid (World.ownsRow_made w4 (e := 3) (base := w4.heap.size) (size := 1) #[] 0 (Nat.le_refl _) (Nat.zero_le _) (by simp))
  have hs5 : (w4.alloc (.cells #[] 3)).heap.size = w4.heap.size + 1 := by simp
  have HL4le := Lib.hid HL4.out.le
  clear HL4
  go_wp2_with (fail)
  generalize w4.alloc (.cells #[] 3) = w5 at *
  refine (HK.out.chain HL5.out.at_).mono ?_
  rintro e w6 ⟨a6, c6, rfl, hown6, hb6⟩
  have HL6 := Lib.hid (HL5.out.later HK.out hb6)
  have HE6 := Lib.hid (owns_later HE5.out hb6)
  rw [kn_ch] at hown6 ⊢
  obtain ⟨a6', c6', e6, hh6⟩ := owns_slice hown6
  injection e6 with e6 _ e7
  subst e6
  subst e7
  obtain ⟨g6, rfl, _, _, A6, t6, hA6, hx6⟩ := hh6 (by decide)
  have HSRC := Lib.hid (show 0 < 8 → ∃ ad : Addr, some (⟨g6, 0, none⟩ : Addr) = some ad ∧ ∀ j u, (natV [2, 3, 4, 5, 6, 7, 8, 9])[j]? = some u → w6.cell? (ad.add j) = some u from fun _ => ⟨_, rfl, fun j u hj => by
    have hj8 : j < 8 := by
      have := (List.getElem?_eq_some_iff.1 hj).1
      simpa [natV] using this
    rw [Addr.add_mid, cell_of_row _ _ _ _ _ _ hA6, Nat.zero_add, hx6 j hj8]
    exact hj⟩)
  have hs6 := hb6.size
  obtain ⟨i0, hi, hz0, hz1, hz2⟩ := info_parts intInfoC
  clear hown6 hb6 hh6 hx6 hA6 HL5 HE5
  have hle6 : w4.heap.size ≤ w6.heap.size := by omega
  go_wp2_with (at_builtin; refine wpList_append_src _ rfl _ _ 40 rfl w4.heap.size 3 i0 _ 1 8 Try.underlying40 hi hz0 hz1 hz2 rfl (by decide) (.slice (some ⟨w4.heap.size, 0, none⟩) 0 0) 0 [] rfl HE6.out (some ⟨g6, 0, none⟩) 8 c6 (natV [2, 3, 4, 5, 6, 7, 8, 9]) rfl (by simp [natV]) HSRC.out (natV_one _) (by unfold maxLen; omega) (by omega) hle6 ?_; intro v7 w7 hown7 hgr7 _; obtain ⟨a7, c7, rfl, hh7⟩ := owns_slice hown7; obtain ⟨g7, rfl, _, _, A7, t7, hA7, hx7⟩ := hh7 (by decide); have hc7 : w7.cell? ⟨g7, 0, none⟩ = some (.int .i64 2) := by rw [cell_of_row _ _ _ _ _ _ hA7]; exact hx7 0 (by decide))
  have HL7 := Lib.hid (HL6.out.only HK.out (Only.of_grown hgr7) (fun k hk h => by have := HLT.out k hk; simp [Value.ownBlock] at h; omega) (fun k h => by have := HL6.out.le; have := HLT.out; simp [Value.ownBlock] at h; have h2 := HL4le.out; omega))
  have HC7 := Lib.hid hc7
  clear hown7 hgr7 hh7 hA7 hx7 hc7 HL6 HE6 HSRC
  refine (HK.out.count HL7.out.at_).mono ?_
  rintro e w8 ⟨rfl, hb8⟩
  rw [kn_n]
  have HL8 := Lib.hid (HL7.out.later HK.out hb8)
  have hc8 : w8.cell? ⟨g7, 0, none⟩ = some (.int .i64 2) := by rw [hb8.cell (World.block_lt_of_cell? _ _ HC7.out)]; exact HC7.out
  clear hb8 HL7
  go_wp2_with (fail)
  refine (HK.out.give 0 HL8.out.at_).mono ?_
  rintro e w9 ⟨rfl, hA, ho⟩
  rw [kn_g]
  have hA9 : SlAt w9 C kn3 := hA
  have HL9 := Lib.hid (HL8.out.turn hA9 ho)
  have hb16 : w9.cell? ⟨w.heap.size, 16, none⟩ = some (.int .u8 2) := by
    have h := (HK.out.byt hA9).cell 16 (by decide)
    rw [hCb] at h
    unfold byV at h
    rw [kn_b] at h
    exact h
  clear hA ho hA9 HL8 hc8
  go_wp2_with (fail)
  refine (HK.out.free HL9.out.at_).mono ?_
  rintro e w10 ⟨rfl, hb⟩
  rw [kn_f]
  have HB := Lib.hid (HL9.out.ends hb)
  clear hb hb16
  go_wp2_with (fail)
  go_ret
  exact ⟨rfl, HB.out⟩
end
end Go.Proofs.Ytifiecfkcikdmaa
