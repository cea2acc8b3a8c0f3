/-
  The walk of MagazineNone: it returns true, and below the old heap nothing has turned.
-/
import Derived.Test.YtaadjgnfihkaeaaMgNone
namespace Go.Proofs.Ytaadjgnfihkaeaa
open Go.RowKit Go
set_option maxRecDepth 100000 in
set_option maxHeartbeats 8000000 in
theorem lawNone_any (x y : Int) (w : World) : Calls Try.prog 6 #[.agg #[.int .i64 x, .int .i64 y]] w fun e w' => e = .returned (.bool true) ∧ Below w.heap.size w w' := by
  have ha1 : Below w.heap.size w (w.alloc (.cells #[.int .i64 x, .int .i64 y] 33)) := (Below.refl _ _).alloc (Nat.le_refl _) _
  have hx1 := obj_row w x y
  have hs1 : (w.alloc (.cells #[.int .i64 x, .int .i64 y] 33)).heap.size = w.heap.size + 1 := by simp
  obtain ⟨w1, hw1⟩ : ∃ w1, w.alloc (.cells #[.int .i64 x, .int .i64 y] 33) = w1 := ⟨_, rfl⟩
  rw [hw1] at ha1 hx1 hs1
  have ha2 : Below w1.heap.size w1 (w1.alloc (.cells #[.int .i64 0, .slice none 0 0, .slice none 0 0] 50)) := (Below.refl _ _).alloc (Nat.le_refl _) _
  have hz2 := zero_at w1
  have hs2 : (w1.alloc (.cells #[.int .i64 0, .slice none 0 0, .slice none 0 0] 50)).heap.size = w.heap.size + 2 := by simp; omega
  obtain ⟨w2, hw2⟩ : ∃ w2, w1.alloc (.cells #[.int .i64 0, .slice none 0 0, .slice none 0 0] 50) = w2 := ⟨_, rfl⟩
  rw [hw2] at ha2 hz2 hs2
  rw [hs1] at hz2
  have ha3 : Below w2.heap.size w2 (w2.alloc (.cells #[.pointer none, .pointer (some ⟨w.heap.size + 1, 0, none⟩)] 24)) := (Below.refl _ _).alloc (Nat.le_refl _) _
  have hr3 : RowAt (w2.alloc (.cells #[.pointer none, .pointer (some ⟨w.heap.size + 1, 0, none⟩)] 24)) w2.heap.size 2 (noneV (w.heap.size + 1)) := RowAt.new w2 _ _ _ _ fun i hi => by
    rcases (show i = 0 ∨ i = 1 by omega) with rfl | rfl <;> rfl
  rw [hs2] at hr3
  have hx3 := (hx1.later ha2).later ha3
  have hz3 := hz2.later ha3
  have hb3 := (ha1.trans (ha2.mono ha1.size)).trans (ha3.mono (by omega))
  obtain ⟨w3, hw3⟩ : ∃ w3, w2.alloc (.cells #[.pointer none, .pointer (some ⟨w.heap.size + 1, 0, none⟩)] 24) = w3 := ⟨_, rfl⟩
  rw [hw3] at hr3 hx3 hz3 hb3
  have HX := Lib.hid hx3
  have HZ := Lib.hid hz3
  have HR := Lib.hid hr3
  have HB := Lib.hid hb3
  have HW := Lib.hid (show ((w.alloc (.cells #[.int .i64 x, .int .i64 y] 33)).alloc (.cells #[.int .i64 0, .slice none 0 0, .slice none 0 0] 50)).alloc (.cells #[.pointer none, .pointer (some ⟨w.heap.size + 1, 0, none⟩)] 24) = w3 by rw [hw1, hw2, hw3])
  clear ha1 hx1 hs1 hw1 ha2 hz2 hs2 hw2 ha3 hr3 hx3 hz3 hb3 hw3
  go_enter Try.func6, Try.ntmps6
  go_wp2_with (fail)
  rw [show w.heap.size + 1 + 1 = w.heap.size + 2 from rfl, HW.out]
  clear HW
  generalize hX : w.heap.size = X at *
  have HXX := Lib.hid hX
  clear hX
  go_loopw [14] (fun i wr => ∃ k : Nat, k ≤ 2 ∧ i = .int .i64 k ∧ Hid (Below w3.heap.size w3 wr)) (fun i _ => 2 - (intOf i).toNat)
  case atStart => exact ⟨0, by omega, rfl, Lib.hid (Below.refl _ _)⟩
  case round =>
    obtain ⟨k, hk, rfl, HB3⟩ := hrel
    by_cases hlt : k < 2
    · have hltI : (k : Int) < 2 := by omega
      have c0 : wr.cell? ⟨X + 2, k, none⟩ = some (noneV (X + 1) k) := (HR.out.later HB3.out).cell k hlt
      have hv : MGone (noneV (X + 1) k) wr := by
        unfold noneV
        by_cases h0 : k = 0
        · rw [if_pos h0]; exact .inl rfl
        · rw [if_neg h0]; exact .inr ⟨_, rfl, HZ.out.later HB3.out⟩
      have HV := Lib.hid hv
      have HLT := Lib.hid hlt
      clear hv hlt
      generalize noneV (X + 1) k = v at *
      go_wp2_with (fail)
      refine (get_gone HV.out).mono ?_
      rintro e w4 ⟨rfl, hb⟩
      have HST := Lib.hid (store_obj w4 #[.int .i64 0, .int .i64 0] rfl 0 0)
      have hba : Below w4.heap.size w4 (w4.alloc (.cells #[.int .i64 0, .int .i64 0] 33)) := (Below.refl _ _).alloc (Nat.le_refl _) _
      have hbb := hb.trans (hba.mono hb.size)
      have HV5 := Lib.hid (HV.out.later hbb)
      have HB5 := Lib.hid (HB3.out.trans (hbb.mono HB3.out.size))
      clear hb hba hbb HV HB3 c0
      go_wp2_with (first | (refine wpList_store_run rfl TO _ _ rfl _ _ _ rfl rfl HST.out ?_) | fail)
      clear HST
      generalize w4.alloc (.cells #[.int .i64 0, .int .i64 0] 33) = w5 at *
      refine (unload_gone HV5.out).mono ?_
      rintro e w6 ⟨rfl, hb⟩
      have HV6 := Lib.hid (HV5.out.later hb)
      have HB6 := Lib.hid (HB5.out.trans (hb.mono HB5.out.size))
      have c0 : w6.cell? ⟨X, 0, none⟩ = some (.int .i64 x) := (HX.out.later HB6.out).cell 0 (by decide)
      have c1 : w6.cell? ⟨X, 1, none⟩ = some (.int .i64 y) := (HX.out.later HB6.out).cell 1 (by decide)
      clear hb HV5 HB5
      go_wp2_with (fail)
      refine (put_gone HV6.out x y).mono ?_
      rintro e w7 ⟨rfl, hb⟩
      have HV7 := Lib.hid (HV6.out.later hb)
      have HB7 := Lib.hid (HB6.out.trans (hb.mono HB6.out.size))
      have c0 : w7.cell? ⟨X, 0, none⟩ = some (.int .i64 x) := (HX.out.later HB7.out).cell 0 (by decide)
      have c1 : w7.cell? ⟨X, 1, none⟩ = some (.int .i64 y) := (HX.out.later HB7.out).cell 1 (by decide)
      clear hb HV6 HB6
      have hba : Below w7.heap.size w7 (w7.alloc (.cells #[.int .i64 x, .int .i64 y] 33)) := (Below.refl _ _).alloc (Nat.le_refl _) _
      have HV8 := Lib.hid (HV7.out.later hba)
      have HB8 := Lib.hid (HB7.out.trans (hba.mono HB7.out.size))
      clear hba HV7 HB7
      go_wp2_with (fail)
      refine (load_gone HV8.out _).mono ?_
      rintro e w9 ⟨rfl, hb⟩
      have HV9 := Lib.hid (HV8.out.later hb)
      have HB9 := Lib.hid (HB8.out.trans (hb.mono HB8.out.size))
      clear hb HV8 HB8 c0 c1
      go_wp2_with (fail)
      refine (len_gone HV9.out).mono ?_
      rintro e w10 ⟨rfl, hb⟩
      have HVA := Lib.hid (HV9.out.later hb)
      have HBA := Lib.hid (HB9.out.trans (hb.mono HB9.out.size))
      clear hb HV9 HB9
      go_wp2_with (fail)
      refine (rounds_gone HVA.out).mono ?_
      rintro e w11 ⟨rfl, hb⟩
      have HVB := Lib.hid (HVA.out.later hb)
      have HBB := Lib.hid (HBA.out.trans (hb.mono HBA.out.size))
      clear hb HVA HBA
      go_wp2_with (fail)
      refine (all_gone HVB.out).mono ?_
      rintro e w12 ⟨a, c, rfl, hb⟩
      have HBC := Lib.hid (HBB.out.trans (hb.mono HBB.out.size))
      clear hb HVB HBB
      go_wp2_with (fail)
      go_roundw
      case rel => exact ⟨k + 1, HLT.out, by go_num, HBC⟩
      case measure => have := HLT.out; simp [intOf]; omega
    · obtain rfl : k = 2 := by omega
      rw [show ((2 : Nat) : Int) = 2 from rfl]
      go_wp2_with (fail)
      refine (known_any _).mono ?_
      rintro e w6 ⟨rfl, hb⟩
      have HBF := Lib.hid (show Below X w w6 from by
        have h1 := HXX.out
        have h2 := HB.out.size
        have h3 := HB3.out.size
        exact (HB.out.trans (HB3.out.mono (by omega))).trans (hb.mono (by omega)))
      clear hb HB3
      go_wp2_with (fail)
      go_ret
      exact ⟨rfl, by rw [HXX.out]; exact HBF.out⟩
end Go.Proofs.Ytaadjgnfihkaeaa
