/-
  device's law: the known case.
-/
import Derived.Test.YtadjkanjlkammaaDvPage
import Derived.Test.YtadjkanjlkammaaDvNew
import Derived.Test.YtadjkanjlkammaaLexH
namespace Go.Proofs.Ytadjkanjlkammaa
open Go.RowKit Go

theorem put_here {B : Nat → UInt8} {f : Nat} {x : Nat → UInt8} (i : Nat) (h : i < 256) : putB B (f * 256) 256 x (f * 256 + i) = x i := by
  unfold putB; rw [if_pos (by omega), Nat.add_sub_cancel_left]
theorem put_else {B : Nat → UInt8} {f g : Nat} {x : Nat → UInt8} (hne : g ≠ f) (i : Nat) (h : i < 256) : putB B (f * 256) 256 x (g * 256 + i) = B (g * 256 + i) := by
  unfold putB; rw [if_neg (by omega)]
theorem Src.one (w : World) (x : UInt8) (v : Int) (hv : v = x.toNat) : Src (w.alloc (.cells #[Value.int .u8 v] 5)) (some ⟨w.heap.size, 0, none⟩) 1 (fun _ => x) := fun _ => ⟨_, rfl, fun j hj => by
  obtain rfl : j = 0 := by omega
  rw [Addr.add_mid, Nat.zero_add]
  simp [go_sem, byV, hv]⟩

set_option maxRecDepth 100000 in
set_option maxHeartbeats 1000000 in
theorem known_any (w : World) :
    Calls Try.prog 8 #[] w fun e w' => e = .returned (.bool true) ∧ Below w.heap.size w w' := by
  go_enter Try.func8, Try.ntmps8
  go_wp2_with (fail)
  refine (new_any 2 w).mono ?_
  rintro e w1 ⟨D, rfl, H, hn, d1, d2, hb⟩
  have hn2 : D.n = 2 := hn
  have HB1 := Lib.hid hb
  have H1 := Lib.hid H
  have S1 := Lib.hid (Src.one w1 7 7 rfl)
  have hb2 : Below w1.heap.size w1 (w1.alloc (.cells #[Value.int .u8 7] 5)) := (Below.refl _ _).alloc (Nat.le_refl _) _
  have HB2 := Lib.hid (HB1.out.trans (hb2.mono HB1.out.size))
  have H2 := Lib.hid (H.later hb2)
  clear hb H hn hb2
  go_wp2_with (fail)
  generalize w1.alloc (.cells #[Value.int .u8 7] 5) = w2 at S1 HB2 H2 ⊢
  refine (page_any S1.out (by decide)).mono ?_
  rintro e w3 ⟨g3, c3, rfl, hg3, _, hr, hb⟩
  have HS3 := Lib.hid (Src.of_row (o := 0) (n := 256) hr (fun j hj => ⟨by omega, by rw [Nat.zero_add]⟩))
  have HB3 := Lib.hid (HB2.out.trans (hb.mono HB2.out.size))
  have H3 := Lib.hid (H2.out.later hb)
  clear hr hb
  go_wp2_with (fail)
  refine (write_ok H3.out 1 (by omega) _ c3 _ HS3.out).mono ?_
  rintro e w4 ⟨rfl, H, ho⟩
  have HB4 := Lib.hid (ho.below HB3.out HB3.out.size (fun k hk => by omega))
  have S4 := Lib.hid (Src.one w4 8 8 rfl)
  have hb5 : Below w4.heap.size w4 (w4.alloc (.cells #[Value.int .u8 8] 5)) := (Below.refl _ _).alloc (Nat.le_refl _) _
  have HB5 := Lib.hid (HB4.out.trans (hb5.mono HB4.out.size))
  have H5 := Lib.hid (H.later hb5)
  clear ho H hb5
  go_wp2_with (fail)
  generalize w4.alloc (.cells #[Value.int .u8 8] 5) = w5 at S4 HB5 H5 ⊢
  refine (page_any S4.out (by decide)).mono ?_
  rintro e w6 ⟨g6, c6, rfl, hg6, _, hr, hb⟩
  have HB6 := Lib.hid (HB5.out.trans (hb.mono HB5.out.size))
  have H6 := Lib.hid (H5.out.later hb)
  clear hr hb
  go_wp2_with (fail)
  refine (write_fail H6.out 1 (by omega) _ c6).mono ?_
  rintro e w' ⟨rfl, rfl⟩
  go_wp2_with (fail)
  refine (read_ok H6.out 1 (by omega) _ (fun i hi => put_here i hi)).mono ?_
  rintro e w7 ⟨g7, c7, rfl, hg7, hr, hb⟩
  have HB7 := Lib.hid (HB6.out.trans (hb.mono HB6.out.size))
  have H7 := Lib.hid (H6.out.later hb)
  have HR7 := Lib.hid hr
  have L1 := Lib.hid (show ∀ W, Kept w7.heap.size w7 W → (convert 32 9 (.slice (some ⟨g7, 0, none⟩) 256 c7)).run Try.prog W = .ok (.string (strB 256 (padB 1 fun _ => 7))) W from
    fun W hW => run_string (HR7.out.later hW.below))
  clear hr hb
  go_wp2_with (fail)
  refine wp_region_lex (Kept w7.heap.size w7) [(0, false), (1, false), (2, false), (3, false), (4, false), (5, true), (6, true), (7, true), (8, false), (9, false), (10, false), (11, false), (12, true), (13, false), (14, false), (15, false)]
    (by kernel_rfl) (by kernel_rfl) rfl (by kernel_rfl) ⟨rfl, rfl, rfl, Nat.le_refl _, fun _ _ => rfl⟩ ?_
  intro W0 hK0
  refine lexH_yieldE rfl rfl ?_
  apply Exists.intro
  refine ⟨fun W hW => ?_, ?_⟩
  focus (go_simp; exact rfl)
  simp only [List.getElem_toArray, List.getElem_cons_zero, Act.put, List.setIfInBounds_toArray, List.set_cons_zero, List.set_cons_succ]
  refine lexH_yieldE rfl rfl ?_
  apply Exists.intro
  refine ⟨fun W hW => ?_, ?_⟩
  focus (go_simp; exact rfl)
  simp only [List.getElem_toArray, List.getElem_cons_succ, List.getElem_cons_zero, Act.put, List.setIfInBounds_toArray, List.set_cons_zero, List.set_cons_succ]
  refine lexH_yieldE rfl rfl ?_
  apply Exists.intro
  refine ⟨fun W hW => ?_, ?_⟩
  focus (go_simp; exact rfl)
  simp only [List.getElem_toArray, List.getElem_cons_succ, List.getElem_cons_zero, Act.put, List.setIfInBounds_toArray, List.set_cons_zero, List.set_cons_succ]
  refine lexH_yieldE rfl rfl ?_
  apply Exists.intro
  refine ⟨fun W hW => ?_, ?_⟩
  focus (go_simp; exact rfl)
  simp only [List.getElem_toArray, List.getElem_cons_succ, List.getElem_cons_zero, Act.put, List.setIfInBounds_toArray, List.set_cons_zero, List.set_cons_succ]
  refine lexH_conv rfl rfl _ _ _ rfl rfl L1.out ?_
  simp only [List.getElem_toArray, List.getElem_cons_succ, List.getElem_cons_zero, Act.put, List.setIfInBounds_toArray, List.set_cons_zero, List.set_cons_succ]
  refine lexH_eff rfl rfl ?_
  unfold Oper.wp
  go_simp
  refine ⟨hK0.below.alloc hK0.below.size _, ?_⟩
  refine lexH_call 16 #[.slice (some ⟨W0.heap.size, 0, none⟩) 1 1] rfl rfl ?_ ?_
  focus (go_simp; done)
  refine (page_any (Src.one W0 7 7 rfl) (by decide)).mono ?_
  rintro e w8 ⟨g8, c8, rfl, hg8, _, hr8, hb8⟩
  have hK8 : Kept w7.heap.size w7 w8 := (hK0.below.alloc hK0.below.size _).trans (hb8.mono (by have := hK0.below.size; simp; omega))
  have HR8 := Lib.hid hr8
  clear hr8 hb8
  refine ⟨_, rfl, hK8, ?_⟩
  simp only [List.getElem_toArray, List.getElem_cons_succ, List.getElem_cons_zero, Act.put, List.setIfInBounds_toArray, List.set_cons_zero, List.set_cons_succ]
  refine lexH_convT rfl rfl _ _ _ rfl rfl (run_string HR8.out) hK8 ?_
  simp only [List.getElem_toArray, List.getElem_cons_succ, List.getElem_cons_zero, Act.put, List.setIfInBounds_toArray, List.set_cons_zero, List.set_cons_succ]
  refine lexH_yieldE rfl rfl ?_
  apply Exists.intro
  refine ⟨fun W hW => ?_, ?_⟩
  focus (go_simp; exact rfl)
  simp only [List.getElem_toArray, List.getElem_cons_succ, List.getElem_cons_zero, Act.put, List.setIfInBounds_toArray, List.set_cons_zero, List.set_cons_succ]
  refine lexH_yieldE rfl rfl ?_
  apply Exists.intro
  refine ⟨fun W hW => ?_, ?_⟩
  focus (go_simp; exact rfl)
  simp only [List.getElem_toArray, List.getElem_cons_succ, List.getElem_cons_zero, Act.put, List.setIfInBounds_toArray, List.set_cons_zero, List.set_cons_succ]
  refine lexH_yieldE rfl rfl ?_
  apply Exists.intro
  refine ⟨fun W hW => ?_, ?_⟩
  focus (go_simp; exact rfl)
  simp only [List.getElem_toArray, List.getElem_cons_succ, List.getElem_cons_zero, Act.put, List.setIfInBounds_toArray, List.set_cons_zero, List.set_cons_succ]
  refine lexH_yieldE rfl rfl ?_
  apply Exists.intro
  refine ⟨fun W hW => ?_, ?_⟩
  focus (go_simp; exact rfl)
  simp only [List.getElem_toArray, List.getElem_cons_succ, List.getElem_cons_zero, Act.put, List.setIfInBounds_toArray, List.set_cons_zero, List.set_cons_succ]
  refine lexH_call 11 #[.pointer (some ⟨D.d, 0, none⟩)] rfl rfl ?_ ?_
  focus (go_simp; done)
  refine (slots_at (H7.out.later hK8.below)).mono ?_
  rintro e w' ⟨rfl, rfl⟩
  rw [hn2]
  refine ⟨_, rfl, hK8, ?_⟩
  simp only [List.getElem_toArray, List.getElem_cons_succ, List.getElem_cons_zero, Act.put, List.setIfInBounds_toArray, List.set_cons_zero, List.set_cons_succ]
  refine lexH_yieldE rfl rfl ?_
  apply Exists.intro
  refine ⟨fun W hW => ?_, ?_⟩
  focus (go_simp; exact rfl)
  simp only [List.getElem_toArray, List.getElem_cons_succ, List.getElem_cons_zero, Act.put, List.setIfInBounds_toArray, List.set_cons_zero, List.set_cons_succ]
  refine lexH_yieldE rfl rfl ?_
  apply Exists.intro
  refine ⟨fun W hW => ?_, ?_⟩
  focus (go_simp; exact rfl)
  simp only [List.getElem_toArray, List.getElem_cons_succ, List.getElem_cons_zero, Act.put, List.setIfInBounds_toArray, List.set_cons_zero, List.set_cons_succ]
  refine lexH_yieldE rfl rfl ?_
  apply Exists.intro
  refine ⟨fun W hW => ?_, ?_⟩
  focus (go_simp; exact rfl)
  simp only [List.getElem_toArray, List.getElem_cons_succ, List.getElem_cons_zero, Act.put, List.setIfInBounds_toArray, List.set_cons_zero]
  refine lexH_nil ?_
  have HB8 := Lib.hid (HB7.out.trans (hK8.below.mono HB7.out.size))
  clear hK0 hK8
  go_wp2_with (fail)
  go_ret
  exact ⟨rfl, HB8.out⟩
end Go.Proofs.Ytadjkanjlkammaa
