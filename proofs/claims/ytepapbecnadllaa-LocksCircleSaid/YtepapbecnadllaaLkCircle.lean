/-
  The walk of LocksCircle: it returns true, and below the old heap nothing has turned.
-/
import Derived.Test.YtepapbecnadllaaLkStep
namespace Go.Proofs.Ytepapbecnadllaa
open Go.RowKit Go

/-- The greatest lock below k that anybody holds. -/
def TopIs (H : Nat → Int) (k : Nat) (t : Int) : Prop := (t = -1 ∧ ∀ i, i < k → H i = -1) ∨ ∃ j : Nat, t = j ∧ j < k ∧ 0 ≤ H j ∧ ∀ i, j < i → i < k → H i = -1
theorem TopIs.yes {H : Nat → Int} {k : Nat} (h : 0 ≤ H k) : TopIs H (k + 1) k := .inr ⟨k, rfl, by omega, h, fun i h1 h2 => by omega⟩
theorem TopIs.no {H : Nat → Int} {k : Nat} {t : Int} (T : TopIs H k t) (h : H k = -1) : TopIs H (k + 1) t := by
  rcases T with ⟨rfl, T⟩ | ⟨j, rfl, h1, h2, T⟩
  · refine .inl ⟨rfl, fun i hi => ?_⟩
    by_cases e : i = k
    · rw [e]; exact h
    · exact T i (by omega)
  · refine .inr ⟨j, rfl, by omega, h2, fun i h3 h4 => ?_⟩
    by_cases e : i = k
    · rw [e]; exact h
    · exact T i h3 (by omega)

set_option maxRecDepth 100000 in
set_option maxHeartbeats 4000000 in
theorem lawCircle_any (nn : Int) (a : Option Addr) (len cap : Nat) (O : Nat → Op3) (w : World) (hO : OpsAt w a len O) :
    Calls Try.prog 4 #[.int .i64 nn, .slice a len cap] w fun e w' => e = .returned (.bool true) ∧ Below w.heap.size w w' := by
  have HO := Lib.hid hO
  clear hO
  by_cases hlen : len ≤ 200
  · go_enter Try.func4, Try.ntmps4
    go_wp2_with (fail)
    refine (new_any nn w).mono ?_
    rintro e w1 ⟨d, rfl, L, d1, hb⟩
    have HL := Lib.hid (show StAt w d (clampL nn) (fun _ => -1) w1 from ⟨L, hb, d1⟩)
    generalize clampL nn = n at HL
    clear L hb
    go_wp2_with (fail)
    go_loopw [20] (fun i wr => ∃ (k : Nat) (H : Nat → Int), k ≤ len ∧ i = .int .i64 k ∧ StAt w d n H wr) (fun i _ => len - (intOf i).toNat)
    case atStart => exact ⟨0, _, Nat.zero_le _, rfl, HL.out⟩
    case round =>
      clear HL
      obtain ⟨k, H, hk, rfl, hL⟩ := hrel
      have HL := Lib.hid hL
      clear hL
      by_cases hlt : k < len
      · obtain ⟨b, o, rfl, hbl, hc⟩ := HO.out.one k hlt
        have HC := Lib.hid hc
        have c0 := (HC.out wr HL.out.bel).1
        clear hc
        have L1 := Lib.hid (show ∀ W, Kept w.heap.size w W → (loadVar 3 ⟨b, o + k * 3 + 1, none⟩).run Try.prog W = .ok (.int .i64 (O k).who) W from
          fun W hW => run_loadVar_cell (fun _ => by kernel_rfl) (HC.out W hW.below).2.1)
        have L2 := Lib.hid (show ∀ W, Kept w.heap.size w W → (loadVar 3 ⟨b, o + k * 3 + 2, none⟩).run Try.prog W = .ok (.int .i64 (O k).lock) W from
          fun W hW => run_loadVar_cell (fun _ => by kernel_rfl) (HC.out W hW.below).2.2)
        generalize (O k).who = who at L1
        generalize (O k).lock = lock at L2
        by_cases hk1 : (O k).kind = 1
        · rw [hk1] at c0
          clear hk1
          go_wp2_with (fail)
          clear c0
          refine wp_region_lex1 (Kept w.heap.size w) [(0, false), (1, false), (2, false), (3, false), (4, false), (5, false), (6, false), (7, false), (8, false), (9, false), (10, false), (11, true)]
            (by kernel_rfl) (by kernel_rfl) rfl (by kernel_rfl) HL.out.bel.drew ?_
          intro W0 hW0 hK0
          have HL0 := Lib.hid (show StAt w d n H W0 by rw [hW0]; exact HL.out.later (Below.refl _ wr).drew)
          clear hW0
          refine lexH_yieldE rfl rfl ?_
          apply Exists.intro
          refine ⟨fun W hW => ?_, ?_⟩
          focus (go_simp; exact rfl)
          simp only [List.getElem_toArray, List.getElem_cons_zero, Act.put, List.setIfInBounds_toArray, List.set_cons_zero, List.set_cons_succ]
          refine lexH_yieldE rfl rfl ?_
          apply Exists.intro
          refine ⟨fun W hW => ?_, ?_⟩
          focus (go_simp; exact rfl)
          simp only [List.getElem_toArray, List.getElem_cons_succ, List.getElem_cons_zero, Act.put, List.setIfInBounds_toArray, List.set_cons_zero, List.set_cons_succ]
          refine lexH_yieldE rfl rfl ?_
          apply Exists.intro
          refine ⟨fun W hW => ?_, ?_⟩
          focus (go_simp; exact rfl)
          simp only [List.getElem_toArray, List.getElem_cons_succ, List.getElem_cons_zero, Act.put, List.setIfInBounds_toArray, List.set_cons_zero, List.set_cons_succ]
          refine lexH_yieldE rfl rfl ?_
          apply Exists.intro
          refine ⟨fun W hW => ?_, ?_⟩
          focus (go_simp; exact rfl)
          simp only [List.getElem_toArray, List.getElem_cons_succ, List.getElem_cons_zero, Act.put, List.setIfInBounds_toArray, List.set_cons_zero, List.set_cons_succ]
          refine lexH_yieldE rfl rfl ?_
          apply Exists.intro
          refine ⟨fun W hW => ?_, ?_⟩
          focus (go_simp; exact rfl)
          simp only [List.getElem_toArray, List.getElem_cons_succ, List.getElem_cons_zero, Act.put, List.setIfInBounds_toArray, List.set_cons_zero, List.set_cons_succ]
          refine lexH_load rfl rfl _ _ rfl rfl L1.out ?_
          simp only [List.getElem_toArray, List.getElem_cons_succ, List.getElem_cons_zero, Act.put, List.setIfInBounds_toArray, List.set_cons_zero, List.set_cons_succ]
          refine lexH_yieldE rfl rfl ?_
          apply Exists.intro
          refine ⟨fun W hW => ?_, ?_⟩
          focus (go_simp; exact rfl)
          simp only [List.getElem_toArray, List.getElem_cons_succ, List.getElem_cons_zero, Act.put, List.setIfInBounds_toArray, List.set_cons_zero, List.set_cons_succ]
          refine lexH_yieldE rfl rfl ?_
          apply Exists.intro
          refine ⟨fun W hW => ?_, ?_⟩
          focus (go_simp; exact rfl)
          simp only [List.getElem_toArray, List.getElem_cons_succ, List.getElem_cons_zero, Act.put, List.setIfInBounds_toArray, List.set_cons_zero, List.set_cons_succ]
          refine lexH_yieldE rfl rfl ?_
          apply Exists.intro
          refine ⟨fun W hW => ?_, ?_⟩
          focus (go_simp; exact rfl)
          simp only [List.getElem_toArray, List.getElem_cons_succ, List.getElem_cons_zero, Act.put, List.setIfInBounds_toArray, List.set_cons_zero, List.set_cons_succ]
          refine lexH_yieldE rfl rfl ?_
          apply Exists.intro
          refine ⟨fun W hW => ?_, ?_⟩
          focus (go_simp; exact rfl)
          simp only [List.getElem_toArray, List.getElem_cons_succ, List.getElem_cons_zero, Act.put, List.setIfInBounds_toArray, List.set_cons_zero, List.set_cons_succ]
          refine lexH_load rfl rfl _ _ rfl rfl L2.out ?_
          simp only [List.getElem_toArray, List.getElem_cons_succ, List.getElem_cons_zero, Act.put, List.setIfInBounds_toArray, List.set_cons_zero, List.set_cons_succ]
          refine lexH_call 15 #[.pointer (some ⟨d, 0, none⟩), .int .i64 who, .int .i64 lock] rfl rfl ?_ ?_
          focus (go_simp; done)
          refine (free_at HL0.out.tab who lock).mono ?_
          rintro e w2 ⟨rfl, L, ho⟩
          have HN := Lib.hid (HL0.out.turn L ho)
          refine ⟨_, rfl, HN.out.bel, ?_⟩
          clear L ho hK0 HL0
          simp only [List.getElem_toArray, List.getElem_cons_succ, List.getElem_cons_zero, Act.put, List.setIfInBounds_toArray, List.set_cons_zero, List.set_cons_succ]
          refine lexH_nil ?_
          go_wp2_with (fail)
          go_roundw
          case rel => exact ⟨k + 1, _, hlt, by go_num, HN.out⟩
          case measure => simp [intOf]; omega
        · have e1 : ((O k).kind == 1) = false := by simpa using hk1
          clear hk1
          go_wp2_with (fail)
          clear c0 e1
          refine wp_region_lex1 (Kept w.heap.size w) [(0, false), (1, false), (2, false), (3, false), (4, false), (5, false), (6, false), (7, false), (8, false), (9, false), (10, false), (11, true)]
            (by kernel_rfl) (by kernel_rfl) rfl (by kernel_rfl) HL.out.bel.drew ?_
          intro W0 hW0 hK0
          have HL0 := Lib.hid (show StAt w d n H W0 by rw [hW0]; exact HL.out.later (Below.refl _ wr).drew)
          clear hW0
          refine lexH_yieldE rfl rfl ?_
          apply Exists.intro
          refine ⟨fun W hW => ?_, ?_⟩
          focus (go_simp; exact rfl)
          simp only [List.getElem_toArray, List.getElem_cons_zero, Act.put, List.setIfInBounds_toArray, List.set_cons_zero, List.set_cons_succ]
          refine lexH_yieldE rfl rfl ?_
          apply Exists.intro
          refine ⟨fun W hW => ?_, ?_⟩
          focus (go_simp; exact rfl)
          simp only [List.getElem_toArray, List.getElem_cons_succ, List.getElem_cons_zero, Act.put, List.setIfInBounds_toArray, List.set_cons_zero, List.set_cons_succ]
          refine lexH_yieldE rfl rfl ?_
          apply Exists.intro
          refine ⟨fun W hW => ?_, ?_⟩
          focus (go_simp; exact rfl)
          simp only [List.getElem_toArray, List.getElem_cons_succ, List.getElem_cons_zero, Act.put, List.setIfInBounds_toArray, List.set_cons_zero, List.set_cons_succ]
          refine lexH_yieldE rfl rfl ?_
          apply Exists.intro
          refine ⟨fun W hW => ?_, ?_⟩
          focus (go_simp; exact rfl)
          simp only [List.getElem_toArray, List.getElem_cons_succ, List.getElem_cons_zero, Act.put, List.setIfInBounds_toArray, List.set_cons_zero, List.set_cons_succ]
          refine lexH_yieldE rfl rfl ?_
          apply Exists.intro
          refine ⟨fun W hW => ?_, ?_⟩
          focus (go_simp; exact rfl)
          simp only [List.getElem_toArray, List.getElem_cons_succ, List.getElem_cons_zero, Act.put, List.setIfInBounds_toArray, List.set_cons_zero, List.set_cons_succ]
          refine lexH_load rfl rfl _ _ rfl rfl L1.out ?_
          simp only [List.getElem_toArray, List.getElem_cons_succ, List.getElem_cons_zero, Act.put, List.setIfInBounds_toArray, List.set_cons_zero, List.set_cons_succ]
          refine lexH_yieldE rfl rfl ?_
          apply Exists.intro
          refine ⟨fun W hW => ?_, ?_⟩
          focus (go_simp; exact rfl)
          simp only [List.getElem_toArray, List.getElem_cons_succ, List.getElem_cons_zero, Act.put, List.setIfInBounds_toArray, List.set_cons_zero, List.set_cons_succ]
          refine lexH_yieldE rfl rfl ?_
          apply Exists.intro
          refine ⟨fun W hW => ?_, ?_⟩
          focus (go_simp; exact rfl)
          simp only [List.getElem_toArray, List.getElem_cons_succ, List.getElem_cons_zero, Act.put, List.setIfInBounds_toArray, List.set_cons_zero, List.set_cons_succ]
          refine lexH_yieldE rfl rfl ?_
          apply Exists.intro
          refine ⟨fun W hW => ?_, ?_⟩
          focus (go_simp; exact rfl)
          simp only [List.getElem_toArray, List.getElem_cons_succ, List.getElem_cons_zero, Act.put, List.setIfInBounds_toArray, List.set_cons_zero, List.set_cons_succ]
          refine lexH_yieldE rfl rfl ?_
          apply Exists.intro
          refine ⟨fun W hW => ?_, ?_⟩
          focus (go_simp; exact rfl)
          simp only [List.getElem_toArray, List.getElem_cons_succ, List.getElem_cons_zero, Act.put, List.setIfInBounds_toArray, List.set_cons_zero, List.set_cons_succ]
          refine lexH_load rfl rfl _ _ rfl rfl L2.out ?_
          simp only [List.getElem_toArray, List.getElem_cons_succ, List.getElem_cons_zero, Act.put, List.setIfInBounds_toArray, List.set_cons_zero, List.set_cons_succ]
          refine lexH_call 13 #[.pointer (some ⟨d, 0, none⟩), .int .i64 who, .int .i64 lock] rfl rfl ?_ ?_
          focus (go_simp; done)
          refine (try_at HL0.out.tab who lock).mono ?_
          rintro e w2 ⟨rfl, L, ho⟩
          have HN := Lib.hid (HL0.out.turn L ho)
          refine ⟨_, rfl, HN.out.bel, ?_⟩
          clear L ho hK0 HL0
          simp only [List.getElem_toArray, List.getElem_cons_succ, List.getElem_cons_zero, Act.put, List.setIfInBounds_toArray, List.set_cons_zero, List.set_cons_succ]
          refine lexH_nil ?_
          go_wp2_with (fail)
          go_roundw
          case rel => exact ⟨k + 1, _, hlt, by go_num, HN.out⟩
          case measure => simp [intOf]; omega
      · obtain rfl : k = len := by omega
        clear HO
        go_wp2_with (fail)
        refine (locks_at HL.out.tab).mono ?_
        rintro e w' ⟨rfl, rfl⟩
        have hn64 := HL.out.tab.n1
        go_wp2_with (fail)
        go_loop [7, 56] (fun t i => ∃ (j : Nat) (top : Int), j ≤ n ∧ i = .int .i64 j ∧ t = .int .i64 top ∧ TopIs H j top) (fun _ i => n - (intOf i).toNat)
        case atStart => exact ⟨0, -1, Nat.zero_le _, rfl, rfl, .inl ⟨rfl, fun i hi => absurd hi (Nat.not_lt_zero _)⟩⟩
        case round =>
          obtain ⟨j, top, hj, rfl, rfl, hT⟩ := hrel
          have HT := Lib.hid hT
          clear hT
          by_cases hlt : j < n
          · have hv : holdV n H j = H j := by unfold holdV hasB; rw [if_pos (by simp; omega), Int.toNat_natCast]
            have hlow := HL.out.tab.low j
            go_wp2_with (fail)
            refine (holder_is HL.out.tab j _ hv).mono ?_
            rintro e w' ⟨rfl, rfl⟩
            clear hv
            by_cases hh : 0 ≤ H j
            · have HN := Lib.hid (TopIs.yes hh)
              have hge : (H j ≥ 0) := hh
              go_wp2_with (fail)
              go_round
              case rel => exact ⟨j + 1, _, hlt, by go_num, rfl, HN.out⟩
              case measure => simp [intOf]; omega
            · have HN := Lib.hid (HT.out.no (show H j = -1 by omega))
              have hge : H j < 0 := by omega
              go_wp2_with (fail)
              go_round
              case rel => exact ⟨j + 1, _, hlt, by go_num, rfl, HN.out⟩
              case measure => simp [intOf]; omega
          · obtain rfl : n = j := by omega
            have hcs : top = -1 ∨ ∃ j : Nat, top = j ∧ j < n ∧ 0 ≤ H j ∧ ∀ i, j < i → i < n → H i = -1 := by
              rcases HT.out with ⟨h, _⟩ | h
              · exact .inl h
              · exact .inr h
            clear HT
            rcases hcs with rfl | ⟨j, rfl, hj, hp, hab⟩
            · go_wp2_with (fail)
              refine (known_any wr).mono ?_
              rintro e w9 ⟨rfl, hb⟩
              have HB := Lib.hid (HL.out.bel.trans (hb.mono HL.out.bel.size))
              clear hb
              go_wp2_with (fail)
              go_ret
              exact ⟨rfl, HB.out⟩
            · have HP := Lib.hid hp
              have HF := Lib.hid (show ∀ i, j < i → H i = -1 from fun i hi => by
                by_cases h : i < n
                · exact hab i hi h
                · exact HL.out.tab.free i (by omega))
              have hv : holdV n H j = H j := by unfold holdV hasB; rw [if_pos (by simp; omega), Int.toNat_natCast]
              have HV := Lib.hid hv
              clear hp hab hv
              go_wp2_with (fail)
              go_loopw [9] (fun i wr => ∃ q : Nat, j < q ∧ q ≤ n ∧ i = .int .i64 q ∧ StAt w d n H wr) (fun i _ => n - (intOf i).toNat)
              case atStart => exact ⟨j + 1, by omega, hj, by go_num, HL.out⟩
              case round =>
                clear HL
                obtain ⟨q, hq1, hq2, rfl, hL⟩ := hrel
                have HL := Lib.hid hL
                clear hL
                go_wp2_with (fail)
                refine (locks_at HL.out.tab).mono ?_
                rintro e w' ⟨rfl, rfl⟩
                by_cases hlt : q < n
                · obtain ⟨t1, t2⟩ := try_above (n := n) (who := H j) (k := q) HP.out hlt (fun i hi => HF.out i (by omega))
                  have HT1 := Lib.hid t1
                  have HT2 := Lib.hid t2
                  clear t1 t2
                  go_wp2_with (fail)
                  refine (copy_at HL.out.tab).mono ?_
                  rintro e w3 ⟨d3, rfl, L3, hd3, hb⟩
                  have HL3 := Lib.hid (HL.out.later hb)
                  have HC3 := Lib.hid L3
                  have hlt3 := HL.out.tab.lt
                  clear L3 hb
                  go_wp2_with (fail)
                  refine (holder_is HL3.out.tab j _ HV.out).mono ?_
                  rintro e w' ⟨rfl, rfl⟩
                  go_wp2_with (fail)
                  refine (try_is HC3.out (H j) q true 0 HT1.out HT2.out).mono ?_
                  rintro e w4 ⟨rfl, L4, ho⟩
                  have HL4 := Lib.hid (HL3.out.other ho (fun k hk => by have := HL.out.bel.size; omega) (by omega))
                  clear L4 ho HL3 HC3 HL hlt3 hd3
                  go_wp2_with (fail)
                  go_roundw
                  case rel => exact ⟨q + 1, by omega, hlt, by go_num, HL4.out⟩
                  case measure => simp [intOf]; omega
                · obtain rfl : n = q := by omega
                  go_wp2_with (fail)
                  refine (known_any wr).mono ?_
                  rintro e w9 ⟨rfl, hb⟩
                  have HB := Lib.hid (HL.out.bel.trans (hb.mono HL.out.bel.size))
                  clear hb
                  go_wp2_with (fail)
                  go_ret
                  exact ⟨rfl, HB.out⟩
  · go_enter Try.func4, Try.ntmps4
    go_wp2_with (fail)
    refine (known_any w).mono ?_
    rintro e w9 ⟨rfl, hb⟩
    have HB2 := Lib.hid hb
    clear hb
    go_wp2_with (fail)
    go_ret
    exact ⟨rfl, HB2.out⟩
end Go.Proofs.Ytepapbecnadllaa
