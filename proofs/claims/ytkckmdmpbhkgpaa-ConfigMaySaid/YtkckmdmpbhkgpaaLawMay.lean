/-
  The walk of ConfigMay: it returns true, and below the old heap nothing has turned.
-/
import Derived.Test.YtkckmdmpbhkgpaaRefFrames
import Derived.Test.YtkckmdmpbhkgpaaKnown
import Derived.Test.YtkckmdmpbhkgpaaLawLeast
import Derived.Test.YtkckmdmpbhkgpaaLexH
namespace Go.Proofs.Ytkckmdmpbhkgpaa
open Go.RowKit Go

/-- The two blocks of the law: the config that came in, and the one that Least is to give. -/
def twoW (w : World) (A M : Array Value) : World := (w.alloc (.cells A 26)).alloc (.cells M 26)
theorem twoW_size (w : World) (A M : Array Value) : (twoW w A M).heap.size = w.heap.size + 2 := by simp [twoW]
theorem load_one {w W : World} {A M : Array Value} {g : Nat → Int} (C : Cfg A g) (h : Kept (w.heap.size + 2) (twoW w A M) W) : (loadVar 26 ⟨w.heap.size, 0, none⟩).run Try.prog W = .ok (.agg A) W :=
  run_loadVar_row W w.heap.size 26 _ A (0, 0) _ (by rw [h.below.block _ (by omega)]; exact heap_alloc2_old w _ _) Try.underlying26 rfl (cfgInfo C)
theorem load_two {w W : World} {A M : Array Value} {g : Nat → Int} (C : Cfg M g) (h : Kept (w.heap.size + 2) (twoW w A M) W) : (loadVar 26 ⟨w.heap.size + 1, 0, none⟩).run Try.prog W = .ok (.agg M) W :=
  run_loadVar_row W (w.heap.size + 1) 26 _ M (0, 0) _ (by rw [h.below.block _ (by omega)]; exact heap_alloc2_new w _ _) Try.underlying26 rfl (cfgInfo C)
theorem two_below (w : World) (A M : Array Value) {W : World} (h : Kept (w.heap.size + 2) (twoW w A M) W) : Below w.heap.size w W :=
  (((Below.refl w.heap.size w).alloc (Nat.le_refl _) _).alloc (by simp) _).trans (h.below.mono (by omega))

/-- What Frames hands back, its length alone. -/
theorem refframes_len (A : Array Value) (g : Nat → Int) (w : World) (hA : Cfg A g) :
    Calls Try.prog 11 #[.agg A] w fun e w' => ∃ p L c, e = .returned (.slice p L c) ∧ (L : Int) = totalI g ∧ Below w.heap.size w w' := by
  cases hm : mayB g with
  | false =>
    refine (frames_no A g w hA hm).mono ?_
    rintro e w' ⟨rfl, hb⟩
    exact ⟨none, 0, 0, rfl, by unfold totalI; rw [hm]; rfl, hb⟩
  | true =>
    have G := (good_iff g).1 hm
    obtain ⟨n, hn⟩ := Int.eq_ofNat_of_zero_le (show 0 ≤ g 0 by have := G.n1; omega)
    refine (refframes_yes A g n w hA hm hn).mono ?_
    rintro e w' ⟨v, rfl, ho, hb⟩
    have hl := frL_length g n (fun i hi => by have := G.frames i (by omega); omega)
    have ht : totalI g = sumF g n := by unfold totalI; rw [if_pos hm, hn]; rfl
    rcases ho.2 with ⟨rfl, h0⟩ | ⟨q, cap, cur, rfl, _⟩
    · exact ⟨none, 0, 0, rfl, by rw [ht, ← hl, h0], hb⟩
    · exact ⟨_, _, _, rfl, by rw [ht, ← hl], hb⟩

set_option maxHeartbeats 4000000 in
set_option maxRecDepth 100000 in
theorem lawMay_any (A : Array Value) (g : Nat → Int) (n : Int) (w : World) (hA : Cfg A g) :
    Calls Try.prog 3 #[.agg A, .int .i64 n] w fun e w' => e = .returned (.bool true) ∧ Below w.heap.size w w' := by
  obtain ⟨x, hx⟩ : ∃ x, x = clampF n := ⟨_, rfl⟩
  have HX := Lib.hid hx
  have HA := Lib.hid hA
  obtain ⟨Z, hz, hZ⟩ := zeroCfg
  have hb := built0 x
  have hL := cfg_ofG (least0 x)
  generalize ofG (least0 x) = L at hb hL
  have hS1 := store_last (w.alloc (.cells A 26)) hz hL
  rw [show (w.alloc (.cells A 26)).heap.size = w.heap.size + 1 by simp] at hS1
  have l18 : L[18]? = some (.int .i64 0) := hL.get 18 (by decide)
  have hM := hL.set 18 x
  obtain ⟨M, eM⟩ : ∃ M, L.setIfInBounds 18 (.int .i64 x) = M := ⟨_, rfl⟩
  rw [eM] at hM
  have hE : Cfg M (leastG x) := hM.ext (fun i _ => by
    unfold updG leastG least0
    by_cases e : i = 18
    · subst e; rfl
    · rw [if_neg e, if_neg e])
  have HE := Lib.hid hE
  have heq : ∀ W, (Op.equalIn 10000 26 (.agg M) (.agg M)).run Try.prog W = .ok true W := fun W => by
    rw [equal_cfg W M M _ _ hE hE, (cfgEq_iff _ _).2 (fun _ _ => rfl)]
  have HL1 := Lib.hid (fun W (h : Kept (w.heap.size + 2) (twoW w A M) W) => load_one hA h)
  have HL2 := Lib.hid (fun W (h : Kept (w.heap.size + 2) (twoW w A M) W) => load_two hE h)
  have HS1 := Lib.hid hS1
  have HB := Lib.hid hb
  clear hz hS1 hL hb hM hA hE
  have hcs : (n < 4 ∧ x = 4) ∨ (128 < n ∧ x = 128) ∨ (4 ≤ n ∧ n ≤ 128 ∧ n = x) := by
    rw [hx]; unfold clampF
    by_cases h1 : n < 4
    · rw [if_pos h1]; exact .inl ⟨h1, rfl⟩
    · rw [if_neg h1]
      by_cases h2 : 128 < n
      · rw [if_pos h2]; exact .inr (.inl ⟨h2, rfl⟩)
      · rw [if_neg h2]; exact .inr (.inr ⟨by omega, by omega, rfl⟩)
  clear hx
  rcases hcs with ⟨h1, rfl⟩ | ⟨h1, rfl⟩ | ⟨h1, h2, rfl⟩
  all_goals
    go_enter Try.func3, Try.ntmps3
    go_wp2_with (first
      | (refine wpList_buildTo rfl 26 _ rfl (some 13) rfl L ?hb ?_; case hb => simpa [Act.eval] using HB.out)
      | (refine wpList_store_run rfl 26 _ _ rfl (w.heap.size + 1) L _ rfl rfl HS1.out ?_))
  all_goals
    refine wp_region_lex (Kept (w.heap.size + 2) (twoW w A M)) [(0, false), (2, false), (1, true), (3, true), (4, false), (5, false), (6, false), (8, false), (7, true), (9, true), (10, false), (11, false), (12, false), (13, false), (14, false), (16, false), (15, true), (17, false), (18, false), (19, false), (20, true), (21, false), (22, false)]
      (by kernel_rfl) (by kernel_rfl) rfl (by kernel_rfl) ⟨rfl, rfl, rfl, Nat.le_refl _, fun _ _ => rfl⟩ ?_
    intro W0 hK
    refine lexH_load rfl rfl _ _ rfl rfl HL1.out ?_
    simp only [List.getElem_toArray, List.getElem_cons_zero, Act.put, List.setIfInBounds_toArray, List.set_cons_zero, List.set_cons_succ]
    refine lexH_load rfl rfl _ _ rfl rfl HL1.out ?_
    simp only [List.getElem_toArray, List.getElem_cons_succ, List.getElem_cons_zero, Act.put, List.setIfInBounds_toArray, List.set_cons_zero, List.set_cons_succ]
    refine lexH_call 8 #[.agg A] rfl rfl ?_ ?_
    focus (go_simp; done)
    refine (may_any A g _ HA.out).mono ?_
    rintro e w1 ⟨rfl, hb⟩
    have hK1 := hK.call (by rw [twoW_size]; exact Nat.le_refl _) hb
    clear hb hK
    refine ⟨_, rfl, hK1, ?_⟩
    simp only [List.getElem_toArray, List.getElem_cons_succ, List.getElem_cons_zero, Act.put, List.setIfInBounds_toArray, List.set_cons_zero, List.set_cons_succ]
    refine lexH_call 9 #[.agg A] rfl rfl ?_ ?_
    focus (go_simp; done)
    refine (refmay_any A g _ HA.out).mono ?_
    rintro e w2 ⟨rfl, hb⟩
    have hK2 := hK1.call (by rw [twoW_size]; exact Nat.le_refl _) hb
    clear hb hK1
    refine ⟨_, rfl, hK2, ?_⟩
    simp only [List.getElem_toArray, List.getElem_cons_succ, List.getElem_cons_zero, Act.put, List.setIfInBounds_toArray, List.set_cons_zero, List.set_cons_succ]
    refine lexH_yieldE rfl rfl ?_
    apply Exists.intro
    refine ⟨fun W hW => ?_, ?_⟩
    focus (go_simp; exact rfl)
    simp only [List.getElem_toArray, List.getElem_cons_succ, List.getElem_cons_zero, Act.put, List.setIfInBounds_toArray, List.set_cons_zero, List.set_cons_succ]
    refine lexH_yieldE rfl rfl ?_
    apply Exists.intro
    refine ⟨fun W hW => ?_, ?_⟩
    focus (go_simp; exact rfl)
    simp only [List.getElem_toArray, List.getElem_cons_succ, List.getElem_cons_zero, Act.put, List.setIfInBounds_toArray, List.set_cons_zero, List.set_cons_succ]
    refine lexH_load rfl rfl _ _ rfl rfl HL1.out ?_
    simp only [List.getElem_toArray, List.getElem_cons_succ, List.getElem_cons_zero, Act.put, List.setIfInBounds_toArray, List.set_cons_zero, List.set_cons_succ]
    refine lexH_load rfl rfl _ _ rfl rfl HL1.out ?_
    simp only [List.getElem_toArray, List.getElem_cons_succ, List.getElem_cons_zero, Act.put, List.setIfInBounds_toArray, List.set_cons_zero, List.set_cons_succ]
    refine lexH_call 10 #[.agg A] rfl rfl ?_ ?_
    focus (go_simp; done)
    refine (total_any A g _ HA.out).mono ?_
    rintro e w3 ⟨rfl, hb⟩
    have hK3 := hK2.call (by rw [twoW_size]; exact Nat.le_refl _) hb
    clear hb hK2
    refine ⟨_, rfl, hK3, ?_⟩
    simp only [List.getElem_toArray, List.getElem_cons_succ, List.getElem_cons_zero, Act.put, List.setIfInBounds_toArray, List.set_cons_zero, List.set_cons_succ]
    refine lexH_call 11 #[.agg A] rfl rfl ?_ ?_
    focus (go_simp; done)
    refine (refframes_len A g _ HA.out).mono ?_
    rintro e w4 ⟨p, l, c, rfl, hl, hb⟩
    rw [← hl]
    clear hl
    have hK4 := hK3.call (by rw [twoW_size]; exact Nat.le_refl _) hb
    clear hb hK3
    refine ⟨_, rfl, hK4, ?_⟩
    simp only [List.getElem_toArray, List.getElem_cons_succ, List.getElem_cons_zero, Act.put, List.setIfInBounds_toArray, List.set_cons_zero, List.set_cons_succ]
    refine lexH_yieldE rfl rfl ?_
    apply Exists.intro
    refine ⟨fun W hW => ?_, ?_⟩
    focus (go_simp; exact rfl)
    simp only [List.getElem_toArray, List.getElem_cons_succ, List.getElem_cons_zero, Act.put, List.setIfInBounds_toArray, List.set_cons_zero, List.set_cons_succ]
    refine lexH_yieldE rfl rfl ?_
    apply Exists.intro
    refine ⟨fun W hW => ?_, ?_⟩
    focus (go_simp; exact rfl)
    simp only [List.getElem_toArray, List.getElem_cons_succ, List.getElem_cons_zero, Act.put, List.setIfInBounds_toArray, List.set_cons_zero, List.set_cons_succ]
    refine lexH_yieldE rfl rfl ?_
    apply Exists.intro
    refine ⟨fun W hW => ?_, ?_⟩
    focus (go_simp; exact rfl)
    simp only [List.getElem_toArray, List.getElem_cons_succ, List.getElem_cons_zero, Act.put, List.setIfInBounds_toArray, List.set_cons_zero, List.set_cons_succ]
    refine lexH_yieldE rfl rfl ?_
    apply Exists.intro
    refine ⟨fun W hW => ?_, ?_⟩
    focus (go_simp; exact rfl)
    simp only [List.getElem_toArray, List.getElem_cons_succ, List.getElem_cons_zero, Act.put, List.setIfInBounds_toArray, List.set_cons_zero, List.set_cons_succ]
    refine lexH_yieldE rfl rfl ?_
    apply Exists.intro
    refine ⟨fun W hW => ?_, ?_⟩
    focus (go_simp; exact rfl)
    simp only [List.getElem_toArray, List.getElem_cons_succ, List.getElem_cons_zero, Act.put, List.setIfInBounds_toArray, List.set_cons_zero, List.set_cons_succ]
    refine lexH_load rfl rfl _ _ rfl rfl HL2.out ?_
    simp only [List.getElem_toArray, List.getElem_cons_succ, List.getElem_cons_zero, Act.put, List.setIfInBounds_toArray, List.set_cons_zero, List.set_cons_succ]
    refine lexH_call 12 #[.int .i64 n] rfl rfl ?_ ?_
    focus (go_simp; done)
    refine (least_any n _).mono ?_
    rintro e w5 ⟨A', rfl, hA', hb⟩
    rw [← HX.out] at hA'
    obtain rfl := hA'.unique HE.out
    clear hA'
    have hK5 := hK4.call (by rw [twoW_size]; exact Nat.le_refl _) hb
    clear hb hK4
    refine ⟨_, rfl, hK5, ?_⟩
    simp only [List.getElem_toArray, List.getElem_cons_succ, List.getElem_cons_zero, Act.put, List.setIfInBounds_toArray, List.set_cons_zero, List.set_cons_succ]
    refine lexH_yieldE rfl rfl ?_
    apply Exists.intro
    refine ⟨fun W hW => ?_, ?_⟩
    focus (go_simp; exact rfl)
    simp only [List.getElem_toArray, List.getElem_cons_succ, List.getElem_cons_zero, Act.put, List.setIfInBounds_toArray, List.set_cons_zero, List.set_cons_succ]
    refine lexH_yieldE rfl rfl ?_
    apply Exists.intro
    refine ⟨fun W hW => ?_, ?_⟩
    focus (go_simp; exact rfl)
    simp only [List.getElem_toArray, List.getElem_cons_succ, List.getElem_cons_zero, Act.put, List.setIfInBounds_toArray, List.set_cons_zero, List.set_cons_succ]
    refine lexH_yieldE rfl rfl ?_
    apply Exists.intro
    refine ⟨fun W hW => ?_, ?_⟩
    focus (go_simp; exact rfl)
    simp only [List.getElem_toArray, List.getElem_cons_succ, List.getElem_cons_zero, Act.put, List.setIfInBounds_toArray, List.set_cons_zero, List.set_cons_succ]
    refine lexH_call 13 #[] rfl rfl ?_ ?_
    focus (go_simp; done)
    refine (known_any _).mono ?_
    rintro e w6 ⟨rfl, hb⟩
    have hK6 := hK5.call (by rw [twoW_size]; exact Nat.le_refl _) hb
    clear hb hK5
    refine ⟨_, rfl, hK6, ?_⟩
    simp only [List.getElem_toArray, List.getElem_cons_succ, List.getElem_cons_zero, Act.put, List.setIfInBounds_toArray, List.set_cons_zero, List.set_cons_succ]
    refine lexH_yieldE rfl rfl ?_
    apply Exists.intro
    refine ⟨fun W hW => ?_, ?_⟩
    focus (go_simp; exact rfl)
    simp only [List.getElem_toArray, List.getElem_cons_succ, List.getElem_cons_zero, Act.put, List.setIfInBounds_toArray, List.set_cons_zero, List.set_cons_succ]
    refine lexH_yieldE rfl rfl ?_
    apply Exists.intro
    refine ⟨fun W hW => ?_, ?_⟩
    focus (go_simp; exact rfl)
    simp only [List.getElem_toArray, List.getElem_cons_succ, List.getElem_cons_zero, Act.put, List.setIfInBounds_toArray, List.set_cons_zero, List.set_cons_succ]
    refine lexH_nil ?_
    have HF := Lib.hid (two_below w A _ hK6)
    clear hK6 heq
    go_wp2_with (fail)
    go_ret
    exact ⟨rfl, HF.out⟩
end Go.Proofs.Ytkckmdmpbhkgpaa
