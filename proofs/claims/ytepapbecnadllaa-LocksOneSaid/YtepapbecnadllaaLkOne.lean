/-
  The walk of LocksOne: it returns true, and below the old heap nothing has turned.
-/
import Derived.Test.YtepapbecnadllaaLkStep
namespace Go.Proofs.Ytepapbecnadllaa
open Go.RowKit Go

/-- The lock is who's, and no other one is. -/
structure OneIs (n : Nat) (H : Nat → Int) (who : Int) (l : Nat) : Prop where
  w0 : 0 ≤ who
  l1 : l < n
  mine : H l = who
  none : ∀ i, i ≠ l → H i ≠ who
theorem OneIs.start {n : Nat} {who : Int} {l : Nat} (hw : 0 ≤ who) (hl : l < n) : OneIs n (updH (fun _ => -1) l who) who l :=
  ⟨hw, hl, if_pos rfl, fun i hi => by unfold updH; rw [if_neg hi]; show (-1 : Int) ≠ who; omega⟩
theorem OneIs.try {n : Nat} {H : Nat → Int} {who : Int} {l : Nat} (h : OneIs n H who l) (x lock : Int) (hx : x ≠ who) : OneIs n (tryH n H x lock) who l := by
  cases hb : tryB n H x lock with
  | false => rw [try_no hb]; exact h
  | true =>
    obtain ⟨_, k, rfl, hk, hf, _, e⟩ := try_yes hb
    rw [e]
    have hne : l ≠ k := fun e => by subst e; have := h.mine; have := h.w0; omega
    refine ⟨h.w0, h.l1, by unfold updH; rw [if_neg hne]; exact h.mine, fun i hi => ?_⟩
    unfold updH
    split
    · exact hx
    · exact h.none i hi
theorem OneIs.free {n : Nat} {H : Nat → Int} {who : Int} {l : Nat} (h : OneIs n H who l) (x lock : Int) (hx : x ≠ who) : OneIs n (freeH n H x lock) who l := by
  by_cases hb : freeE n H x lock = 0
  · obtain ⟨_, k, rfl, hk, hf, e⟩ := free_yes hb
    rw [e]
    have hne : l ≠ k := fun e => by subst e; exact hx (hf.symm.trans h.mine)
    refine ⟨h.w0, h.l1, by unfold updH; rw [if_neg hne]; exact h.mine, fun i hi => ?_⟩
    unfold updH
    split
    · have := h.w0; omega
    · exact h.none i hi
  · rw [free_no hb]; exact h
theorem OneIs.below {n : Nat} {H : Nat → Int} {who : Int} {l : Nat} (h : OneIs n H who l) (k : Nat) : heldL H who k = if l < k then [(l : Int)] else [] := by
  induction k with
  | zero => rfl
  | succ k ih =>
    by_cases e : k = l
    · subst e
      rw [heldL_yes h.mine, ih, if_neg (Nat.lt_irrefl _), if_pos (Nat.lt_succ_self _)]; rfl
    · rw [heldL_no (h.none k e), ih]
      by_cases h1 : l < k
      · rw [if_pos h1, if_pos (by omega)]
      · rw [if_neg h1, if_neg (by omega)]
theorem OneIs.held {n : Nat} {H : Nat → Int} {who : Int} {l : Nat} (h : OneIs n H who l) : heldW n H who = [(l : Int)] := by
  unfold heldW
  rw [if_neg (by have := h.w0; omega), h.below, if_pos h.l1]
theorem OneIs.hold {n : Nat} {H : Nat → Int} {who : Int} {l : Nat} (h : OneIs n H who l) : holdV n H l = who := by
  unfold holdV hasB
  rw [if_pos (by have := h.l1; simp; omega), Int.toNat_natCast]; exact h.mine
theorem OneIs.freed {n : Nat} {H : Nat → Int} {who : Int} {l : Nat} (h : OneIs n H who l) : freeE n H who l = 0 := by
  unfold freeE
  rw [if_pos (askB_iff.2 ⟨h.w0, by omega, by have := h.l1; omega⟩), Int.toNat_natCast, if_pos h.mine]
theorem hold_upd {n : Nat} {H : Nat → Int} {l : Nat} (hl : l < n) (v : Int) : holdV n (updH H l v) l = v := by
  unfold holdV hasB updH
  rw [if_pos (by simp; omega), Int.toNat_natCast, if_pos rfl]

set_option maxRecDepth 100000 in
set_option maxHeartbeats 4000000 in
theorem lawOne_any (nn who lock : Int) (a : Option Addr) (len cap : Nat) (O : Nat → Op3) (w : World) (hO : OpsAt w a len O) :
    Calls Try.prog 5 #[.int .i64 nn, .int .i64 who, .int .i64 lock, .slice a len cap] w fun e w' => e = .returned (.bool true) ∧ Below w.heap.size w w' := by
  have HO := Lib.hid hO
  clear hO
  by_cases hlen : len ≤ 100
  · go_enter Try.func5, Try.ntmps5
    go_wp2_with (fail)
    refine (new_any nn w).mono ?_
    rintro e w1 ⟨d, rfl, L, d1, hb⟩
    have HL := Lib.hid (show StAt w d (clampL nn) (fun _ => -1) w1 from ⟨L, hb, d1⟩)
    generalize clampL nn = n at HL
    clear L hb
    by_cases ha : askB n who lock = true
    · obtain ⟨l, rfl, hl, hw⟩ := askB_nat ha
      obtain ⟨t1, t2⟩ := try_above (n := n) (H := fun _ => -1) (who := who) (k := l) hw hl (fun _ _ => rfl)
      have HT1 := Lib.hid t1
      have HT2 := Lib.hid t2
      clear t1 t2 ha
      go_wp2_with (fail)
      refine (try_is HL.out.tab who l true 0 HT1.out HT2.out).mono ?_
      rintro e w2 ⟨rfl, L, ho⟩
      have HL2 := Lib.hid (HL.out.turn L ho)
      have HN := Lib.hid (OneIs.start hw hl)
      clear L ho HL HT1 HT2
      go_wp2_with (fail)
      go_loopw [52] (fun i wr => ∃ (k : Nat) (H : Nat → Int), k ≤ len ∧ i = .int .i64 k ∧ StAt w d n H wr ∧ OneIs n H who l) (fun i _ => len - (intOf i).toNat)
      case atStart => exact ⟨0, _, Nat.zero_le _, rfl, HL2.out, HN.out⟩
      case round =>
        clear HL2 HN
        obtain ⟨k, H, hk, rfl, hL, hN⟩ := hrel
        have HL := Lib.hid hL
        have HN := Lib.hid hN
        clear hL hN
        by_cases hlt : k < len
        · obtain ⟨b, o, rfl, hbl, hc⟩ := HO.out.one k hlt
          have HC := Lib.hid hc
          obtain ⟨c0, c1, _⟩ := HC.out wr HL.out.bel
          clear hc
          have L1 := Lib.hid (show ∀ W, Kept w.heap.size w W → (loadVar 3 ⟨b, o + k * 3 + 1, none⟩).run Try.prog W = .ok (.int .i64 (O k).who) W from
            fun W hW => run_loadVar_cell (fun _ => by kernel_rfl) (HC.out W hW.below).2.1)
          have L2 := Lib.hid (show ∀ W, Kept w.heap.size w W → (loadVar 3 ⟨b, o + k * 3 + 2, none⟩).run Try.prog W = .ok (.int .i64 (O k).lock) W from
            fun W hW => run_loadVar_cell (fun _ => by kernel_rfl) (HC.out W hW.below).2.2)
          clear HC
          generalize (O k).who = x at L1 c1
          generalize (O k).lock = y at L2
          generalize (O k).kind = z at c0
          by_cases hx : x = who
          · subst hx
            clear c0
            go_wp2_with (fail)
            go_roundw
            case rel => exact ⟨k + 1, _, hlt, by go_num, HL.out, HN.out⟩
            case measure => simp [intOf]; omega
          · have ex : (x == who) = false := by simpa using hx
            have HX := Lib.hid hx
            clear hx
            by_cases hz : z = 1
            · subst hz
              go_wp2_with (fail)
              clear c0 c1
              refine wp_region_lex1 (Kept w.heap.size w) [(0, false), (1, false), (2, false), (3, false), (4, false), (5, false), (6, false), (7, false), (8, false), (9, false), (10, false), (11, true)]
                (by kernel_rfl) (by kernel_rfl) rfl (by kernel_rfl) HL.out.bel.drew ?_
              intro W0 hW0 hK0
              have HL0 := Lib.hid (show StAt w d n H W0 by rw [hW0]; exact HL.out.later (Below.refl _ wr).drew)
              clear hW0
              refine lexH_yieldE rfl rfl ?_
              apply Exists.intro
              refine ⟨fun W hW => ?_, ?_⟩
              focus (go_simp; exact rfl)
              simp only [List.getElem_toArray, List.getElem_cons_zero, Act.put, List.setIfInBounds_toArray, List.set_cons_zero, List.set_cons_succ]
              refine lexH_yieldE rfl rfl ?_
              apply Exists.intro
              refine ⟨fun W hW => ?_, ?_⟩
              focus (go_simp; exact rfl)
              simp only [List.getElem_toArray, List.getElem_cons_succ, List.getElem_cons_zero, Act.put, List.setIfInBounds_toArray, List.set_cons_zero, List.set_cons_succ]
              refine lexH_yieldE rfl rfl ?_
              apply Exists.intro
              refine ⟨fun W hW => ?_, ?_⟩
              focus (go_simp; exact rfl)
              simp only [List.getElem_toArray, List.getElem_cons_succ, List.getElem_cons_zero, Act.put, List.setIfInBounds_toArray, List.set_cons_zero, List.set_cons_succ]
              refine lexH_yieldE rfl rfl ?_
              apply Exists.intro
              refine ⟨fun W hW => ?_, ?_⟩
              focus (go_simp; exact rfl)
              simp only [List.getElem_toArray, List.getElem_cons_succ, List.getElem_cons_zero, Act.put, List.setIfInBounds_toArray, List.set_cons_zero, List.set_cons_succ]
              refine lexH_yieldE rfl rfl ?_
              apply Exists.intro
              refine ⟨fun W hW => ?_, ?_⟩
              focus (go_simp; exact rfl)
              simp only [List.getElem_toArray, List.getElem_cons_succ, List.getElem_cons_zero, Act.put, List.setIfInBounds_toArray, List.set_cons_zero, List.set_cons_succ]
              refine lexH_load rfl rfl _ _ rfl rfl L1.out ?_
              simp only [List.getElem_toArray, List.getElem_cons_succ, List.getElem_cons_zero, Act.put, List.setIfInBounds_toArray, List.set_cons_zero, List.set_cons_succ]
              refine lexH_yieldE rfl rfl ?_
              apply Exists.intro
              refine ⟨fun W hW => ?_, ?_⟩
              focus (go_simp; exact rfl)
              simp only [List.getElem_toArray, List.getElem_cons_succ, List.getElem_cons_zero, Act.put, List.setIfInBounds_toArray, List.set_cons_zero, List.set_cons_succ]
              refine lexH_yieldE rfl rfl ?_
              apply Exists.intro
              refine ⟨fun W hW => ?_, ?_⟩
              focus (go_simp; exact rfl)
              simp only [List.getElem_toArray, List.getElem_cons_succ, List.getElem_cons_zero, Act.put, List.setIfInBounds_toArray, List.set_cons_zero, List.set_cons_succ]
              refine lexH_yieldE rfl rfl ?_
              apply Exists.intro
              refine ⟨fun W hW => ?_, ?_⟩
              focus (go_simp; exact rfl)
              simp only [List.getElem_toArray, List.getElem_cons_succ, List.getElem_cons_zero, Act.put, List.setIfInBounds_toArray, List.set_cons_zero, List.set_cons_succ]
              refine lexH_yieldE rfl rfl ?_
              apply Exists.intro
              refine ⟨fun W hW => ?_, ?_⟩
              focus (go_simp; exact rfl)
              simp only [List.getElem_toArray, List.getElem_cons_succ, List.getElem_cons_zero, Act.put, List.setIfInBounds_toArray, List.set_cons_zero, List.set_cons_succ]
              refine lexH_load rfl rfl _ _ rfl rfl L2.out ?_
              simp only [List.getElem_toArray, List.getElem_cons_succ, List.getElem_cons_zero, Act.put, List.setIfInBounds_toArray, List.set_cons_zero, List.set_cons_succ]
              refine lexH_call 15 #[.pointer (some ⟨d, 0, none⟩), .int .i64 x, .int .i64 y] rfl rfl ?_ ?_
              focus (go_simp; done)
              refine (free_at HL0.out.tab x y).mono ?_
              rintro e w2 ⟨rfl, L, ho⟩
              have HL2 := Lib.hid (HL0.out.turn L ho)
              have HN2 := Lib.hid (HN.out.free x y HX.out)
              refine ⟨_, rfl, HL2.out.bel, ?_⟩
              clear L ho hK0 HL0
              simp only [List.getElem_toArray, List.getElem_cons_succ, List.getElem_cons_zero, Act.put, List.setIfInBounds_toArray, List.set_cons_zero, List.set_cons_succ]
              refine lexH_nil ?_
              generalize freeH n H x y = H2 at HL2 HN2
              go_wp2_with (fail)
              refine (held_at HL2.out.tab who).mono ?_
              intro e w3 hh
              rw [HN2.out.held] at hh
              obtain ⟨a3, cap3, rfl, hb, hr⟩ := hh.slice
              obtain ⟨g, rfl, hg, R⟩ := hr Nat.one_pos
              have HL3 := Lib.hid (HL2.out.later hb)
              have c3 : w3.cell? ⟨g, 0, none⟩ = some (.int .i64 l) := R.cell 0 Nat.one_pos
              have HC3 := Lib.hid c3
              clear hh hb hr R hg c3
              go_wp2_with (fail)
              refine (holder_is HL3.out.tab l _ HN2.out.hold).mono ?_
              rintro e w' ⟨rfl, rfl⟩
              have c3 := HC3.out
              go_wp2_with (fail)
              clear c3
              go_roundw
              case rel => exact ⟨k + 1, _, hlt, by go_num, HL3.out, HN2.out⟩
              case measure => simp [intOf]; omega
            · have ez : (z == 1) = false := by simpa using hz
              clear hz
              go_wp2_with (fail)
              clear c0 c1 ez
              refine wp_region_lex1 (Kept w.heap.size w) [(0, false), (1, false), (2, false), (3, false), (4, false), (5, false), (6, false), (7, false), (8, false), (9, false), (10, false), (11, true)]
                (by kernel_rfl) (by kernel_rfl) rfl (by kernel_rfl) HL.out.bel.drew ?_
              intro W0 hW0 hK0
              have HL0 := Lib.hid (show StAt w d n H W0 by rw [hW0]; exact HL.out.later (Below.refl _ wr).drew)
              clear hW0
              refine lexH_yieldE rfl rfl ?_
              apply Exists.intro
              refine ⟨fun W hW => ?_, ?_⟩
              focus (go_simp; exact rfl)
              simp only [List.getElem_toArray, List.getElem_cons_zero, Act.put, List.setIfInBounds_toArray, List.set_cons_zero, List.set_cons_succ]
              refine lexH_yieldE rfl rfl ?_
              apply Exists.intro
              refine ⟨fun W hW => ?_, ?_⟩
              focus (go_simp; exact rfl)
              simp only [List.getElem_toArray, List.getElem_cons_succ, List.getElem_cons_zero, Act.put, List.setIfInBounds_toArray, List.set_cons_zero, List.set_cons_succ]
              refine lexH_yieldE rfl rfl ?_
              apply Exists.intro
              refine ⟨fun W hW => ?_, ?_⟩
              focus (go_simp; exact rfl)
              simp only [List.getElem_toArray, List.getElem_cons_succ, List.getElem_cons_zero, Act.put, List.setIfInBounds_toArray, List.set_cons_zero, List.set_cons_succ]
              refine lexH_yieldE rfl rfl ?_
              apply Exists.intro
              refine ⟨fun W hW => ?_, ?_⟩
              focus (go_simp; exact rfl)
              simp only [List.getElem_toArray, List.getElem_cons_succ, List.getElem_cons_zero, Act.put, List.setIfInBounds_toArray, List.set_cons_zero, List.set_cons_succ]
              refine lexH_yieldE rfl rfl ?_
              apply Exists.intro
              refine ⟨fun W hW => ?_, ?_⟩
              focus (go_simp; exact rfl)
              simp only [List.getElem_toArray, List.getElem_cons_succ, List.getElem_cons_zero, Act.put, List.setIfInBounds_toArray, List.set_cons_zero, List.set_cons_succ]
              refine lexH_load rfl rfl _ _ rfl rfl L1.out ?_
              simp only [List.getElem_toArray, List.getElem_cons_succ, List.getElem_cons_zero, Act.put, List.setIfInBounds_toArray, List.set_cons_zero, List.set_cons_succ]
              refine lexH_yieldE rfl rfl ?_
              apply Exists.intro
              refine ⟨fun W hW => ?_, ?_⟩
              focus (go_simp; exact rfl)
              simp only [List.getElem_toArray, List.getElem_cons_succ, List.getElem_cons_zero, Act.put, List.setIfInBounds_toArray, List.set_cons_zero, List.set_cons_succ]
              refine lexH_yieldE rfl rfl ?_
              apply Exists.intro
              refine ⟨fun W hW => ?_, ?_⟩
              focus (go_simp; exact rfl)
              simp only [List.getElem_toArray, List.getElem_cons_succ, List.getElem_cons_zero, Act.put, List.setIfInBounds_toArray, List.set_cons_zero, List.set_cons_succ]
              refine lexH_yieldE rfl rfl ?_
              apply Exists.intro
              refine ⟨fun W hW => ?_, ?_⟩
              focus (go_simp; exact rfl)
              simp only [List.getElem_toArray, List.getElem_cons_succ, List.getElem_cons_zero, Act.put, List.setIfInBounds_toArray, List.set_cons_zero, List.set_cons_succ]
              refine lexH_yieldE rfl rfl ?_
              apply Exists.intro
              refine ⟨fun W hW => ?_, ?_⟩
              focus (go_simp; exact rfl)
              simp only [List.getElem_toArray, List.getElem_cons_succ, List.getElem_cons_zero, Act.put, List.setIfInBounds_toArray, List.set_cons_zero, List.set_cons_succ]
              refine lexH_load rfl rfl _ _ rfl rfl L2.out ?_
              simp only [List.getElem_toArray, List.getElem_cons_succ, List.getElem_cons_zero, Act.put, List.setIfInBounds_toArray, List.set_cons_zero, List.set_cons_succ]
              refine lexH_call 13 #[.pointer (some ⟨d, 0, none⟩), .int .i64 x, .int .i64 y] rfl rfl ?_ ?_
              focus (go_simp; done)
              refine (try_at HL0.out.tab x y).mono ?_
              rintro e w2 ⟨rfl, L, ho⟩
              have HL2 := Lib.hid (HL0.out.turn L ho)
              have HN2 := Lib.hid (HN.out.try x y HX.out)
              refine ⟨_, rfl, HL2.out.bel, ?_⟩
              clear L ho hK0 HL0
              simp only [List.getElem_toArray, List.getElem_cons_succ, List.getElem_cons_zero, Act.put, List.setIfInBounds_toArray, List.set_cons_zero, List.set_cons_succ]
              refine lexH_nil ?_
              generalize tryH n H x y = H2 at HL2 HN2
              go_wp2_with (fail)
              refine (held_at HL2.out.tab who).mono ?_
              intro e w3 hh
              rw [HN2.out.held] at hh
              obtain ⟨a3, cap3, rfl, hb, hr⟩ := hh.slice
              obtain ⟨g, rfl, hg, R⟩ := hr Nat.one_pos
              have HL3 := Lib.hid (HL2.out.later hb)
              have c3 : w3.cell? ⟨g, 0, none⟩ = some (.int .i64 l) := R.cell 0 Nat.one_pos
              have HC3 := Lib.hid c3
              clear hh hb hr R hg c3
              go_wp2_with (fail)
              refine (holder_is HL3.out.tab l _ HN2.out.hold).mono ?_
              rintro e w' ⟨rfl, rfl⟩
              have c3 := HC3.out
              go_wp2_with (fail)
              clear c3
              go_roundw
              case rel => exact ⟨k + 1, _, hlt, by go_num, HL3.out, HN2.out⟩
              case measure => simp [intOf]; omega
        · obtain rfl : k = len := by omega
          have HE := Lib.hid (hold_upd HN.out.l1 (H := H) (-1))
          have HF := Lib.hid HN.out.freed
          clear HO HN
          go_wp2_with (fail)
          refine (free_is HL.out.tab who l 0 HF.out).mono ?_
          rintro e w3 ⟨rfl, L, ho⟩
          have HL3 := Lib.hid (HL.out.turn L ho)
          clear L ho
          go_wp2_with (fail)
          refine (holder_is HL3.out.tab l (-1) HE.out).mono ?_
          rintro e w' ⟨rfl, rfl⟩
          go_wp2_with (fail)
          refine (known_any _).mono ?_
          rintro e w9 ⟨rfl, hb⟩
          have HB := Lib.hid (HL3.out.bel.trans (hb.mono HL3.out.bel.size))
          clear hb
          go_wp2_with (fail)
          go_ret
          exact ⟨rfl, HB.out⟩
    · have t1 : tryB n (fun _ => -1) who lock = false := by unfold tryB; simp at ha; rw [ha]; rfl
      have t2 : tryE n (fun _ => -1) who lock = 2 := by unfold tryE; rw [if_neg ha]
      have HT1 := Lib.hid t1
      have HT2 := Lib.hid t2
      have hcs : who < 0 ∨ (0 ≤ who ∧ lock < 0) ∨ (0 ≤ who ∧ 0 ≤ lock ∧ (n : Int) ≤ lock) := by
        rw [askB_iff] at ha; omega
      clear t1 t2 ha
      rcases hcs with h1 | ⟨h1, h2⟩ | ⟨h1, h2, h3⟩
      · go_wp2_with (fail)
        refine (try_is HL.out.tab who lock false 2 HT1.out HT2.out).mono ?_
        rintro e w2 ⟨rfl, L, ho⟩
        have HL2 := Lib.hid (HL.out.turn L ho)
        clear L ho HL
        go_wp2_with (fail)
        refine (known_any _).mono ?_
        rintro e w9 ⟨rfl, hb⟩
        have HB := Lib.hid (HL2.out.bel.trans (hb.mono HL2.out.bel.size))
        clear hb
        go_wp2_with (fail)
        go_ret
        exact ⟨rfl, HB.out⟩
      · go_wp2_with (fail)
        refine (try_is HL.out.tab who lock false 2 HT1.out HT2.out).mono ?_
        rintro e w2 ⟨rfl, L, ho⟩
        have HL2 := Lib.hid (HL.out.turn L ho)
        clear L ho HL
        go_wp2_with (fail)
        refine (known_any _).mono ?_
        rintro e w9 ⟨rfl, hb⟩
        have HB := Lib.hid (HL2.out.bel.trans (hb.mono HL2.out.bel.size))
        clear hb
        go_wp2_with (fail)
        go_ret
        exact ⟨rfl, HB.out⟩
      · go_wp2_with (fail)
        refine (try_is HL.out.tab who lock false 2 HT1.out HT2.out).mono ?_
        rintro e w2 ⟨rfl, L, ho⟩
        have HL2 := Lib.hid (HL.out.turn L ho)
        clear L ho HL
        go_wp2_with (fail)
        refine (locks_at HL2.out.tab).mono ?_
        rintro e w' ⟨rfl, rfl⟩
        go_wp2_with (fail)
        refine (known_any _).mono ?_
        rintro e w9 ⟨rfl, hb⟩
        have HB := Lib.hid (HL2.out.bel.trans (hb.mono HL2.out.bel.size))
        clear hb
        go_wp2_with (fail)
        go_ret
        exact ⟨rfl, HB.out⟩
  · go_enter Try.func5, Try.ntmps5
    go_wp2_with (fail)
    refine (known_any w).mono ?_
    rintro e w9 ⟨rfl, hb⟩
    have HB2 := Lib.hid hb
    clear hb
    go_wp2_with (fail)
    go_ret
    exact ⟨rfl, HB2.out⟩
end Go.Proofs.Ytepapbecnadllaa
