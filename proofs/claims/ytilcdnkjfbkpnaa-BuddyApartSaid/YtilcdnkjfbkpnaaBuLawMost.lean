/-
  The walk of BuddyMost: it returns true, and below the old heap nothing has turned.
-/
import Derived.Test.YtilcdnkjfbkpnaaBuSum
import Derived.Test.YtilcdnkjfbkpnaaBuKnown
import Derived.Test.YtilcdnkjfbkpnaaBuOps
import Derived.Deep.DeepCutAuto
import Derived.Deep.CutBlock
namespace Go.Proofs.Ytilcdnkjfbkpnaa
open Go.RowKit Go

/-- A node in the midst of a law. -/
structure StAt (B d n : Nat) (mb : Nat → Nat) (tb : Nat) (L T : List (Int × Int)) (w W : World) : Prop where
  node : NodeAt W d n mb tb L T
  inv : Inv n L T
  bel : Below B w W
  own : ∀ k, own6 mb tb k → B ≤ k
  d1 : B ≤ d
  le : B ≤ W.heap.size
section
variable {B d n : Nat} {mb : Nat → Nat} {tb : Nat} {L T : List (Int × Int)} {w W W' : World}
theorem StAt.later (S : StAt B d n mb tb L T w W) (h : Below W.heap.size W W') : StAt B d n mb tb L T w W' :=
  ⟨S.node.later h, S.inv, S.bel.trans (h.mono S.le), S.own, S.d1, Nat.le_trans S.le h.size⟩
theorem StAt.turn (S : StAt B d n mb tb L T w W) {M U : List (Int × Int)} (N : NodeAt W' d n mb tb M U) (I : Inv n M U) (h : Only (own6 mb tb) W W') : StAt B d n mb tb M U w W' :=
  ⟨N, I, h.below S.bel S.le S.own, S.own, S.d1, Nat.le_trans S.le h.size⟩
theorem StAt.new {e : Ending} (h1 : 1 ≤ n) (h2 : n ≤ 128) (h : New6 w n e W) : ∃ d mb tb, e = .returned (.tuple #[.pointer (some ⟨d, 0, none⟩), .int .i64 0]) ∧ StAt w.heap.size d n mb tb (newL n) [] w W := by
  obtain ⟨d, mb, tb, rfl, N, hd, ho, hb⟩ := h
  exact ⟨d, mb, tb, rfl, N, inv_new h1 h2, hb, ho, hd, hb.size⟩
end
set_option maxRecDepth 100000 in
set_option maxHeartbeats 8000000 in
theorem lawMost_any (nn : Int) (a : Option Addr) (len cap : Nat) (O : Nat → Op6) (w : World) (hO : OpsAt w a len O) :
    Calls Try.prog 7 #[.int .i64 nn, .slice a len cap] w fun e w' => e = .returned (.bool true) ∧ Below w.heap.size w w' := by
  have HO := Lib.hid hO
  clear hO
  by_cases hv : 1 ≤ nn ∧ nn ≤ 128
  · obtain ⟨n, rfl⟩ : ∃ n : Nat, nn = n := ⟨nn.toNat, by omega⟩
    have hn1 : 1 ≤ n := by omega
    have hn2 : n ≤ 128 := by omega
    clear hv
    by_cases hlen : len ≤ 200
    · have hlen2 : ¬ (200 < (len : Int)) := by omega
      go_enter Try.func7, Try.ntmps7
      go_wp2_with (fail)
      refine (new6_any hn1 hn2 w).mono ?_
      intro e w1 hN
      obtain ⟨d, mb, tb, rfl, hS⟩ := StAt.new hn1 hn2 hN
      have HS1 := Lib.hid hS
      clear hS hN
      go_wp2_with (fail)
      go_loopw [34] (fun i wr => ∃ (k : Nat) (L T : List (Int × Int)), i = .int .i64 k ∧ k ≤ len ∧ StAt w.heap.size d n mb tb L T w wr) (fun i _ => len - (intOf i).toNat)
      case atStart => exact ⟨0, _, _, rfl, Nat.zero_le _, HS1.out⟩
      case round =>
        clear HS1
        obtain ⟨k, L, T, rfl, hk, hS⟩ := hrel
        have HS := Lib.hid hS
        clear hS
        by_cases hlt : k < len
        · obtain ⟨b, o, rfl, hbl, hok, hc⟩ := HO.out.one k hlt
          obtain ⟨c0, c1, c2, c3⟩ := hc wr HS.out.bel
          have HC := Lib.hid hc
          clear hc
          generalize (O k).kind = kind at *
          generalize (O k).order = order at *
          generalize (O k).high = high at *
          have hok2 : -9223372036854775808 ≤ (O k).at1 ∧ (O k).at1 ≤ 9223372036854775807 := hok
          generalize (O k).at1 = at1 at *
          clear hok
          have hltI : (k : Int) < (len : Int) := by omega
          have L1 := Lib.hid (show ∀ W, Kept w.heap.size w W → (loadVar 3 ⟨b, o + k * 4 + 1, none⟩).run Try.prog W = .ok (.int .i64 at1) W from
            fun W hW => run_loadVar_cell (fun _ => by kernel_rfl) (HC.out W hW.below).2.1)
          have L2 := Lib.hid (show ∀ W, Kept w.heap.size w W → (loadVar 3 ⟨b, o + k * 4 + 2, none⟩).run Try.prog W = .ok (.int .i64 order) W from
            fun W hW => run_loadVar_cell (fun _ => by kernel_rfl) (HC.out W hW.below).2.2.1)
          have L3 := Lib.hid (show ∀ W, Kept w.heap.size w W → (loadVar 4 ⟨b, o + k * 4 + 3, none⟩).run Try.prog W = .ok (.bool high) W from
            fun W hW => run_loadVar_cell (fun _ => by kernel_rfl) (HC.out W hW.below).2.2.2)
          clear HC c1 c2 c3
          by_cases hk1 : kind = 1
          · subst hk1
            go_wp2_with (fail)
            clear c0
            refine wp_region_lex1 (Kept w.heap.size w) [(0, false), (1, false), (2, false), (3, false), (4, false), (5, false), (6, false), (7, false), (8, false), (9, false), (10, false), (11, true)]
              (by kernel_rfl) (by kernel_rfl) rfl (by kernel_rfl) (HS.out.bel.trans ((Below.refl _ wr).drew)) ?_
            intro W0 hW0 hK0
            have HS0 := Lib.hid (show StAt w.heap.size d n mb tb L T w W0 by rw [hW0]; exact HS.out.later (Below.refl _ wr).drew)
            clear hW0 hK0 HS
            refine lexH_yieldE rfl rfl ?_
            apply Exists.intro
            refine ⟨fun W hW => ?_, ?_⟩
            focus (go_simp; exact rfl)
            simp only [List.getElem_toArray, List.getElem_cons_zero, Act.put, List.setIfInBounds_toArray, List.set_cons_zero, List.set_cons_succ]
            refine lexH_yieldE rfl rfl ?_
            apply Exists.intro
            refine ⟨fun W hW => ?_, ?_⟩
            focus (go_simp; exact rfl)
            simp only [List.getElem_toArray, List.getElem_cons_succ, List.getElem_cons_zero, Act.put, List.setIfInBounds_toArray, List.set_cons_zero, List.set_cons_succ]
            refine lexH_yieldE rfl rfl ?_
            apply Exists.intro
            refine ⟨fun W hW => ?_, ?_⟩
            focus (go_simp; exact rfl)
            simp only [List.getElem_toArray, List.getElem_cons_succ, List.getElem_cons_zero, Act.put, List.setIfInBounds_toArray, List.set_cons_zero, List.set_cons_succ]
            refine lexH_yieldE rfl rfl ?_
            apply Exists.intro
            refine ⟨fun W hW => ?_, ?_⟩
            focus (go_simp; exact rfl)
            simp only [List.getElem_toArray, List.getElem_cons_succ, List.getElem_cons_zero, Act.put, List.setIfInBounds_toArray, List.set_cons_zero, List.set_cons_succ]
            refine lexH_yieldE rfl rfl ?_
            apply Exists.intro
            refine ⟨fun W hW => ?_, ?_⟩
            focus (go_simp; exact rfl)
            simp only [List.getElem_toArray, List.getElem_cons_succ, List.getElem_cons_zero, Act.put, List.setIfInBounds_toArray, List.set_cons_zero, List.set_cons_succ]
            refine lexH_load rfl rfl _ _ rfl rfl L2.out ?_
            simp only [List.getElem_toArray, List.getElem_cons_succ, List.getElem_cons_zero, Act.put, List.setIfInBounds_toArray, List.set_cons_zero, List.set_cons_succ]
            refine lexH_yieldE rfl rfl ?_
            apply Exists.intro
            refine ⟨fun W hW => ?_, ?_⟩
            focus (go_simp; exact rfl)
            simp only [List.getElem_toArray, List.getElem_cons_succ, List.getElem_cons_zero, Act.put, List.setIfInBounds_toArray, List.set_cons_zero, List.set_cons_succ]
            refine lexH_yieldE rfl rfl ?_
            apply Exists.intro
            refine ⟨fun W hW => ?_, ?_⟩
            focus (go_simp; exact rfl)
            simp only [List.getElem_toArray, List.getElem_cons_succ, List.getElem_cons_zero, Act.put, List.setIfInBounds_toArray, List.set_cons_zero, List.set_cons_succ]
            refine lexH_yieldE rfl rfl ?_
            apply Exists.intro
            refine ⟨fun W hW => ?_, ?_⟩
            focus (go_simp; exact rfl)
            simp only [List.getElem_toArray, List.getElem_cons_succ, List.getElem_cons_zero, Act.put, List.setIfInBounds_toArray, List.set_cons_zero, List.set_cons_succ]
            refine lexH_yieldE rfl rfl ?_
            apply Exists.intro
            refine ⟨fun W hW => ?_, ?_⟩
            focus (go_simp; exact rfl)
            simp only [List.getElem_toArray, List.getElem_cons_succ, List.getElem_cons_zero, Act.put, List.setIfInBounds_toArray, List.set_cons_zero, List.set_cons_succ]
            refine lexH_load rfl rfl _ _ rfl rfl L3.out ?_
            simp only [List.getElem_toArray, List.getElem_cons_succ, List.getElem_cons_zero, Act.put, List.setIfInBounds_toArray, List.set_cons_zero, List.set_cons_succ]
            refine lexH_call 13 #[.pointer (some ⟨d, 0, none⟩), .int .i64 order, .bool high] rfl rfl ?_ ?_
            focus (go_simp; done)
            refine (take6_any HS0.out.node HS0.out.inv order high).mono ?_
            rintro e w3 ⟨rfl, hN, ho⟩
            have HS3 := Lib.hid (HS0.out.turn hN (HS0.out.inv.take order high) ho)
            refine ⟨_, rfl, HS3.out.bel, ?_⟩
            clear hN ho HS0
            simp only [List.getElem_toArray, List.getElem_cons_succ, List.getElem_cons_zero, Act.put, List.setIfInBounds_toArray, List.set_cons_zero, List.set_cons_succ]
            refine lexH_nil ?_
            go_wp2_with (fail)
            go_roundw
            case rel => exact ⟨k + 1, _, _, by go_num, hlt, HS3.out⟩
            case measure => simp [intOf]; omega
          · have e1 : (kind == 1) = false := by simpa using hk1
            clear hk1
            by_cases hk2 : kind = 2
            · subst hk2
              go_wp2_with (fail)
              clear c0 e1
              refine wp_region_lex1 (Kept w.heap.size w) [(0, false), (1, false), (2, false), (3, false), (4, false), (5, false), (6, false), (7, false), (8, false), (9, false), (10, false), (11, true)]
                (by kernel_rfl) (by kernel_rfl) rfl (by kernel_rfl) (HS.out.bel.trans ((Below.refl _ wr).drew)) ?_
              intro W0 hW0 hK0
              have HS0 := Lib.hid (show StAt w.heap.size d n mb tb L T w W0 by rw [hW0]; exact HS.out.later (Below.refl _ wr).drew)
              clear hW0 hK0 HS
              refine lexH_yieldE rfl rfl ?_
              apply Exists.intro
              refine ⟨fun W hW => ?_, ?_⟩
              focus (go_simp; exact rfl)
              simp only [List.getElem_toArray, List.getElem_cons_zero, Act.put, List.setIfInBounds_toArray, List.set_cons_zero, List.set_cons_succ]
              refine lexH_yieldE rfl rfl ?_
              apply Exists.intro
              refine ⟨fun W hW => ?_, ?_⟩
              focus (go_simp; exact rfl)
              simp only [List.getElem_toArray, List.getElem_cons_succ, List.getElem_cons_zero, Act.put, List.setIfInBounds_toArray, List.set_cons_zero, List.set_cons_succ]
              refine lexH_yieldE rfl rfl ?_
              apply Exists.intro
              refine ⟨fun W hW => ?_, ?_⟩
              focus (go_simp; exact rfl)
              simp only [List.getElem_toArray, List.getElem_cons_succ, List.getElem_cons_zero, Act.put, List.setIfInBounds_toArray, List.set_cons_zero, List.set_cons_succ]
              refine lexH_yieldE rfl rfl ?_
              apply Exists.intro
              refine ⟨fun W hW => ?_, ?_⟩
              focus (go_simp; exact rfl)
              simp only [List.getElem_toArray, List.getElem_cons_succ, List.getElem_cons_zero, Act.put, List.setIfInBounds_toArray, List.set_cons_zero, List.set_cons_succ]
              refine lexH_yieldE rfl rfl ?_
              apply Exists.intro
              refine ⟨fun W hW => ?_, ?_⟩
              focus (go_simp; exact rfl)
              simp only [List.getElem_toArray, List.getElem_cons_succ, List.getElem_cons_zero, Act.put, List.setIfInBounds_toArray, List.set_cons_zero, List.set_cons_succ]
              refine lexH_load rfl rfl _ _ rfl rfl L1.out ?_
              simp only [List.getElem_toArray, List.getElem_cons_succ, List.getElem_cons_zero, Act.put, List.setIfInBounds_toArray, List.set_cons_zero, List.set_cons_succ]
              refine lexH_yieldE rfl rfl ?_
              apply Exists.intro
              refine ⟨fun W hW => ?_, ?_⟩
              focus (go_simp; exact rfl)
              simp only [List.getElem_toArray, List.getElem_cons_succ, List.getElem_cons_zero, Act.put, List.setIfInBounds_toArray, List.set_cons_zero, List.set_cons_succ]
              refine lexH_yieldE rfl rfl ?_
              apply Exists.intro
              refine ⟨fun W hW => ?_, ?_⟩
              focus (go_simp; exact rfl)
              simp only [List.getElem_toArray, List.getElem_cons_succ, List.getElem_cons_zero, Act.put, List.setIfInBounds_toArray, List.set_cons_zero, List.set_cons_succ]
              refine lexH_yieldE rfl rfl ?_
              apply Exists.intro
              refine ⟨fun W hW => ?_, ?_⟩
              focus (go_simp; exact rfl)
              simp only [List.getElem_toArray, List.getElem_cons_succ, List.getElem_cons_zero, Act.put, List.setIfInBounds_toArray, List.set_cons_zero, List.set_cons_succ]
              refine lexH_yieldE rfl rfl ?_
              apply Exists.intro
              refine ⟨fun W hW => ?_, ?_⟩
              focus (go_simp; exact rfl)
              simp only [List.getElem_toArray, List.getElem_cons_succ, List.getElem_cons_zero, Act.put, List.setIfInBounds_toArray, List.set_cons_zero, List.set_cons_succ]
              refine lexH_load rfl rfl _ _ rfl rfl L2.out ?_
              simp only [List.getElem_toArray, List.getElem_cons_succ, List.getElem_cons_zero, Act.put, List.setIfInBounds_toArray, List.set_cons_zero, List.set_cons_succ]
              refine lexH_call 15 #[.pointer (some ⟨d, 0, none⟩), .int .i64 at1, .int .i64 order] rfl rfl ?_ ?_
              focus (go_simp; done)
              refine (give6_any HS0.out.node HS0.out.inv at1 order hok2).mono ?_
              rintro e w3 ⟨rfl, hN, ho⟩
              have HS3 := Lib.hid (HS0.out.turn hN (HS0.out.inv.giveAny at1 order) ho)
              refine ⟨_, rfl, HS3.out.bel, ?_⟩
              clear hN ho HS0
              simp only [List.getElem_toArray, List.getElem_cons_succ, List.getElem_cons_zero, Act.put, List.setIfInBounds_toArray, List.set_cons_zero, List.set_cons_succ]
              refine lexH_nil ?_
              go_wp2_with (fail)
              go_roundw
              case rel => exact ⟨k + 1, _, _, by go_num, hlt, HS3.out⟩
              case measure => simp [intOf]; omega
            · have e2 : (kind == 2) = false := by simpa using hk2
              clear hk2
              go_wp2_with (fail)
              go_roundw
              case rel => exact ⟨k + 1, L, T, by go_num, hlt, HS.out⟩
              case measure => simp [intOf]; omega
        · obtain rfl : k = len := by omega
          go_wp2_with (fail)
          refine (most6_any HS.out.node).mono ?_
          rintro e w2 ⟨⟨x, rfl, hx⟩, hb⟩
          have HS2 := Lib.hid (HS.out.later hb)
          have HX := Lib.hid hx
          clear hb hx HS hk hlt
          go_wp2_with (fail)
          go_loopw [73] (fun i wr => ∃ o : Nat, i = .int .i64 o ∧ o ≤ 11 ∧ StAt w.heap.size d n mb tb L T w wr) (fun i _ => 11 - (intOf i).toNat)
          case atStart => exact ⟨0, rfl, by decide, HS2.out⟩
          case round =>
            clear HS2
            obtain ⟨o, rfl, ho, hS⟩ := hrel
            have HS := Lib.hid hS
            clear hS
            by_cases hlt : o < 11
            · have hltI : (o : Int) < 11 := by omega
              go_wp2_with (fail)
              go_loopw [77] (fun i wr => ∃ j : Nat, i = .int .i64 j ∧ j ≤ 2 ∧ StAt w.heap.size d n mb tb L T w wr) (fun i _ => 2 - (intOf i).toNat)
              case atStart => exact ⟨0, rfl, by decide, HS.out⟩
              case round =>
                clear HS
                obtain ⟨j, rfl, hj, hS⟩ := hrel
                have HS := Lib.hid hS
                clear hS
                by_cases hlj : j < 2
                · have hljI : (j : Int) < 2 := by omega
                  obtain ⟨high, hix⟩ : ∃ high, ∀ W, (Instr.index 62 (.agg #[.bool false, .bool true]) (.int .i64 j)).run Try.prog W = .ok (.bool high) W := by
                    rcases (show j = 0 ∨ j = 1 by omega) with rfl | rfl
                    · exact ⟨false, fun W => by kernel_rfl⟩
                    · exact ⟨true, fun W => by kernel_rfl⟩
                  go_wp2_with (fail)
                  refine (copy6_any HS.out.node hn1).mono ?_
                  rintro e w3 ⟨d2, mb2, tb2, rfl, hN2, hd2, ho2, hb⟩
                  have HS3 := Lib.hid (HS.out.later hb)
                  have HN2 := Lib.hid hN2
                  have HSEP := Lib.hid (show d ≠ d2 ∧ (∀ k, own6 mb2 tb2 k → ¬ k = d) ∧ (∀ k, own6 mb tb k → ¬ own6 mb2 tb2 k) ∧ ∀ k, own6 mb2 tb2 k → w.heap.size ≤ k from
                    ⟨by have := HS.out.node.lt; omega, fun k hk e => by have := HS.out.node.lt; have := ho2 k hk; omega, fun k hk h => by have := HS.out.node.own_lt hk; have := ho2 k h; omega, fun k hk => by have := HS.out.le; have := ho2 k hk; omega⟩)
                  clear hN2 hd2 ho2 hb HS
                  go_wp2_with (fail)
                  refine (take6_any HN2.out HS3.out.inv o high).mono ?_
                  rintro e w4 ⟨rfl, hN4, ho4⟩
                  have HS4 := Lib.hid (show StAt w.heap.size d n mb tb L T w w4 from
                    ⟨HS3.out.node.only ho4 (fun h => HSEP.out.2.1 _ h rfl) HSEP.out.2.2.1, HS3.out.inv, ho4.below HS3.out.bel HS3.out.le HSEP.out.2.2.2, HS3.out.own, HS3.out.d1, Nat.le_trans HS3.out.le ho4.size⟩)
                  rcases take_back HS3.out.inv (show o ≤ 10 by omega) high HX.out with ⟨hle, y, M, e1, e2, e3, J, hyn⟩ | ⟨hgt, e1⟩
                  · rw [e1] at hN4 ⊢
                    have HN4 := Lib.hid hN4
                    have HE3 := Lib.hid e3
                    have HJ := Lib.hid J
                    clear hN4 ho4 e1 e3 J HS3 HN2
                    obtain ⟨p, hp⟩ : ∃ p, 2 ^ o = p := ⟨_, rfl⟩
                    have hp2 := two_pow_small (show o ≤ 10 by omega)
                    rw [hp] at hp2 e2
                    obtain ⟨p1, p2⟩ := hp2
                    have hpI : (2 : Int) ^ o = (p : Int) := by rw [← hp]; simp
                    have hfb := freeT_bound HS4.out.inv
                    rw [← e2] at hfb
                    have HE2 := Lib.hid e2
                    have hwp : IntKind.i64.wrap (p : Int) = (p : Int) := by rw [IntKind.wrap_i64]; omega
                    clear e2 hp
                    go_wp2_with (fail)
                    refine wp_region_lex1 (fun _ => True) [(0, false), (1, false), (2, false), (3, false), (5, false), (7, false), (8, false), (4, true), (6, true), (9, false), (10, false), (11, false), (12, false), (13, false), (14, false), (15, true), (16, false), (17, false), (18, false), (19, false), (21, false), (20, true), (22, false), (23, false), (24, false), (25, false), (27, false), (26, true), (28, true), (29, false), (30, false), (31, false)]
                      (by kernel_rfl) (by kernel_rfl) rfl (by kernel_rfl) trivial ?_
                    intro W0 hW0 _
                    have HS5 := Lib.hid (show StAt w.heap.size d n mb tb L T w W0 by rw [hW0]; exact HS4.out.later (Below.refl _ w4).drew)
                    have HN5 := Lib.hid (show NodeAt W0 d2 n mb2 tb2 M (T ++ [((y : Int), (o : Int))]) by rw [hW0]; exact HN4.out.later (Below.refl _ w4).drew)
                    clear hW0 HS4 HN4
                    refine lexH_yieldE rfl rfl ?_
                    apply Exists.intro
                    refine ⟨fun W hW => ?_, ?_⟩
                    focus (go_simp; exact rfl)
                    simp only [List.getElem_toArray, List.getElem_cons_zero, Act.put, List.setIfInBounds_toArray, List.set_cons_zero, List.set_cons_succ]
                    refine lexH_yieldE rfl rfl ?_
                    apply Exists.intro
                    refine ⟨fun W hW => ?_, ?_⟩
                    focus (go_simp; exact rfl)
                    simp only [List.getElem_toArray, List.getElem_cons_succ, List.getElem_cons_zero, Act.put, List.setIfInBounds_toArray, List.set_cons_zero, List.set_cons_succ]
                    refine lexH_yieldE rfl rfl ?_
                    apply Exists.intro
                    refine ⟨fun W hW => ?_, ?_⟩
                    focus (go_simp; exact rfl)
                    simp only [List.getElem_toArray, List.getElem_cons_succ, List.getElem_cons_zero, Act.put, List.setIfInBounds_toArray, List.set_cons_zero, List.set_cons_succ]
                    refine lexH_yieldE rfl rfl ?_
                    apply Exists.intro
                    refine ⟨fun W hW => ?_, ?_⟩
                    focus (go_simp; exact rfl)
                    simp only [List.getElem_toArray, List.getElem_cons_succ, List.getElem_cons_zero, Act.put, List.setIfInBounds_toArray, List.set_cons_zero, List.set_cons_succ]
                    refine lexH_yieldE rfl rfl ?_
                    apply Exists.intro
                    refine ⟨fun W hW => ?_, ?_⟩
                    focus (go_simp; exact rfl)
                    simp only [List.getElem_toArray, List.getElem_cons_succ, List.getElem_cons_zero, Act.put, List.setIfInBounds_toArray, List.set_cons_zero, List.set_cons_succ]
                    refine lexH_yieldE rfl rfl ?_
                    apply Exists.intro
                    refine ⟨fun W hW => ?_, ?_⟩
                    focus (go_simp; exact rfl)
                    simp only [List.getElem_toArray, List.getElem_cons_succ, List.getElem_cons_zero, Act.put, List.setIfInBounds_toArray, List.set_cons_zero, List.set_cons_succ]
                    refine lexH_yieldE rfl rfl ?_
                    apply Exists.intro
                    refine ⟨fun W hW => ?_, ?_⟩
                    focus (go_simp; exact rfl)
                    simp only [List.getElem_toArray, List.getElem_cons_succ, List.getElem_cons_zero, Act.put, List.setIfInBounds_toArray, List.set_cons_zero, List.set_cons_succ]
                    refine lexH_call 21 #[.pointer (some ⟨d2, 0, none⟩)] rfl rfl ?_ ?_
                    focus (go_simp; done)
                    refine (free_any HN5.out HJ.out).mono ?_
                    rintro e w' ⟨rfl, rfl⟩
                    refine ⟨_, rfl, trivial, ?_⟩
                    simp only [List.getElem_toArray, List.getElem_cons_succ, List.getElem_cons_zero, Act.put, List.setIfInBounds_toArray, List.set_cons_zero, List.set_cons_succ]
                    refine lexH_call 21 #[.pointer (some ⟨d, 0, none⟩)] rfl rfl ?_ ?_
                    focus (go_simp; done)
                    refine (free_any HS5.out.node HS5.out.inv).mono ?_
                    rintro e w' ⟨rfl, rfl⟩
                    refine ⟨_, rfl, trivial, ?_⟩
                    rw [← HE2.out]
                    generalize hG : freeT M = G at *
                    have hwG : IntKind.i64.wrap ((G : Int) + (p : Int) - (p : Int)) = (G : Int) := by rw [IntKind.wrap_i64]; omega
                    have hwG2 : IntKind.i64.wrap (G : Int) = (G : Int) := by rw [IntKind.wrap_i64]; omega
                    simp only [List.getElem_toArray, List.getElem_cons_succ, List.getElem_cons_zero, Act.put, List.setIfInBounds_toArray, List.set_cons_zero, List.set_cons_succ]
                    refine lexH_yieldE rfl rfl ?_
                    apply Exists.intro
                    refine ⟨fun W hW => ?_, ?_⟩
                    focus (go_simp; exact rfl)
                    simp only [List.getElem_toArray, List.getElem_cons_succ, List.getElem_cons_zero, Act.put, List.setIfInBounds_toArray, List.set_cons_zero, List.set_cons_succ]
                    refine lexH_yieldE rfl rfl ?_
                    apply Exists.intro
                    refine ⟨fun W hW => ?_, ?_⟩
                    focus (go_simp; exact rfl)
                    simp only [List.getElem_toArray, List.getElem_cons_succ, List.getElem_cons_zero, Act.put, List.setIfInBounds_toArray, List.set_cons_zero, List.set_cons_succ]
                    refine lexH_yieldE rfl rfl ?_
                    apply Exists.intro
                    refine ⟨fun W hW => ?_, ?_⟩
                    focus (go_simp; exact rfl)
                    simp only [List.getElem_toArray, List.getElem_cons_succ, List.getElem_cons_zero, Act.put, List.setIfInBounds_toArray, List.set_cons_zero, List.set_cons_succ]
                    refine lexH_yieldE rfl rfl ?_
                    apply Exists.intro
                    refine ⟨fun W hW => ?_, ?_⟩
                    focus (go_simp; exact rfl)
                    simp only [List.getElem_toArray, List.getElem_cons_succ, List.getElem_cons_zero, Act.put, List.setIfInBounds_toArray, List.set_cons_zero, List.set_cons_succ]
                    refine lexH_yieldE rfl rfl ?_
                    apply Exists.intro
                    refine ⟨fun W hW => ?_, ?_⟩
                    focus (go_simp; exact rfl)
                    simp only [List.getElem_toArray, List.getElem_cons_succ, List.getElem_cons_zero, Act.put, List.setIfInBounds_toArray, List.set_cons_zero, List.set_cons_succ]
                    refine lexH_yieldE rfl rfl ?_
                    apply Exists.intro
                    refine ⟨fun W hW => ?_, ?_⟩
                    focus (go_simp; exact rfl)
                    simp only [List.getElem_toArray, List.getElem_cons_succ, List.getElem_cons_zero, Act.put, List.setIfInBounds_toArray, List.set_cons_zero, List.set_cons_succ]
                    refine lexH_call 15 #[.pointer (some ⟨d2, 0, none⟩), .int .i64 y, .int .i64 o] rfl rfl ?_ ?_
                    focus (go_simp; done)
                    refine (give6_any HN5.out HJ.out y o (by omega)).mono ?_
                    rintro e w6 ⟨rfl, hN6, ho6⟩
                    rw [HE3.out] at hN6 ⊢
                    have HN6 := Lib.hid hN6
                    have HS6 := Lib.hid (show StAt w.heap.size d n mb tb L T w w6 from
                      ⟨HS5.out.node.only ho6 (fun h => HSEP.out.2.1 _ h rfl) HSEP.out.2.2.1, HS5.out.inv, ho6.below HS5.out.bel HS5.out.le HSEP.out.2.2.2, HS5.out.own, HS5.out.d1, Nat.le_trans HS5.out.le ho6.size⟩)
                    refine ⟨_, rfl, trivial, ?_⟩
                    clear hN6 ho6 HS5 HN5 HE3 HJ
                    simp only [List.getElem_toArray, List.getElem_cons_succ, List.getElem_cons_zero, Act.put, List.setIfInBounds_toArray, List.set_cons_zero, List.set_cons_succ]
                    refine lexH_yieldE rfl rfl ?_
                    apply Exists.intro
                    refine ⟨fun W hW => ?_, ?_⟩
                    focus (go_simp; exact rfl)
                    simp only [List.getElem_toArray, List.getElem_cons_succ, List.getElem_cons_zero, Act.put, List.setIfInBounds_toArray, List.set_cons_zero, List.set_cons_succ]
                    refine lexH_yieldE rfl rfl ?_
                    apply Exists.intro
                    refine ⟨fun W hW => ?_, ?_⟩
                    focus (go_simp; exact rfl)
                    simp only [List.getElem_toArray, List.getElem_cons_succ, List.getElem_cons_zero, Act.put, List.setIfInBounds_toArray, List.set_cons_zero, List.set_cons_succ]
                    refine lexH_yieldE rfl rfl ?_
                    apply Exists.intro
                    refine ⟨fun W hW => ?_, ?_⟩
                    focus (go_simp; exact rfl)
                    simp only [List.getElem_toArray, List.getElem_cons_succ, List.getElem_cons_zero, Act.put, List.setIfInBounds_toArray, List.set_cons_zero, List.set_cons_succ]
                    refine lexH_yieldE rfl rfl ?_
                    apply Exists.intro
                    refine ⟨fun W hW => ?_, ?_⟩
                    focus (go_simp; exact rfl)
                    simp only [List.getElem_toArray, List.getElem_cons_succ, List.getElem_cons_zero, Act.put, List.setIfInBounds_toArray, List.set_cons_zero, List.set_cons_succ]
                    refine lexH_yieldE rfl rfl ?_
                    apply Exists.intro
                    refine ⟨fun W hW => ?_, ?_⟩
                    focus (go_simp; exact rfl)
                    simp only [List.getElem_toArray, List.getElem_cons_succ, List.getElem_cons_zero, Act.put, List.setIfInBounds_toArray, List.set_cons_zero, List.set_cons_succ]
                    refine lexH_call 22 #[.pointer (some ⟨d2, 0, none⟩)] rfl rfl ?_ ?_
                    focus (go_simp; done)
                    refine (most6_any HN6.out).mono ?_
                    rintro e w7 ⟨⟨x2, rfl, hx2⟩, hb7⟩
                    obtain rfl := mst_one hx2 HX.out
                    have HN7 := Lib.hid (HN6.out.later hb7)
                    have HS7 := Lib.hid (HS6.out.later hb7)
                    refine ⟨_, rfl, trivial, ?_⟩
                    clear hx2 hb7 HN6 HS6
                    simp only [List.getElem_toArray, List.getElem_cons_succ, List.getElem_cons_zero, Act.put, List.setIfInBounds_toArray, List.set_cons_zero, List.set_cons_succ]
                    refine lexH_yieldE rfl rfl ?_
                    apply Exists.intro
                    refine ⟨fun W hW => ?_, ?_⟩
                    focus (go_simp; exact rfl)
                    simp only [List.getElem_toArray, List.getElem_cons_succ, List.getElem_cons_zero, Act.put, List.setIfInBounds_toArray, List.set_cons_zero, List.set_cons_succ]
                    refine lexH_yieldE rfl rfl ?_
                    apply Exists.intro
                    refine ⟨fun W hW => ?_, ?_⟩
                    focus (go_simp; exact rfl)
                    simp only [List.getElem_toArray, List.getElem_cons_succ, List.getElem_cons_zero, Act.put, List.setIfInBounds_toArray, List.set_cons_zero, List.set_cons_succ]
                    refine lexH_yieldE rfl rfl ?_
                    apply Exists.intro
                    refine ⟨fun W hW => ?_, ?_⟩
                    focus (go_simp; exact rfl)
                    simp only [List.getElem_toArray, List.getElem_cons_succ, List.getElem_cons_zero, Act.put, List.setIfInBounds_toArray, List.set_cons_zero, List.set_cons_succ]
                    refine lexH_yieldE rfl rfl ?_
                    apply Exists.intro
                    refine ⟨fun W hW => ?_, ?_⟩
                    focus (go_simp; exact rfl)
                    simp only [List.getElem_toArray, List.getElem_cons_succ, List.getElem_cons_zero, Act.put, List.setIfInBounds_toArray, List.set_cons_zero, List.set_cons_succ]
                    refine lexH_yieldE rfl rfl ?_
                    apply Exists.intro
                    refine ⟨fun W hW => ?_, ?_⟩
                    focus (go_simp; exact rfl)
                    simp only [List.getElem_toArray, List.getElem_cons_succ, List.getElem_cons_zero, Act.put, List.setIfInBounds_toArray, List.set_cons_zero, List.set_cons_succ]
                    refine lexH_call 21 #[.pointer (some ⟨d2, 0, none⟩)] rfl rfl ?_ ?_
                    focus (go_simp; done)
                    refine (free_any HN7.out HS7.out.inv).mono ?_
                    rintro e w' ⟨rfl, rfl⟩
                    refine ⟨_, rfl, trivial, ?_⟩
                    simp only [List.getElem_toArray, List.getElem_cons_succ, List.getElem_cons_zero, Act.put, List.setIfInBounds_toArray, List.set_cons_zero, List.set_cons_succ]
                    refine lexH_call 21 #[.pointer (some ⟨d, 0, none⟩)] rfl rfl ?_ ?_
                    focus (go_simp; done)
                    refine (free_any HS7.out.node HS7.out.inv).mono ?_
                    rintro e w' ⟨rfl, rfl⟩
                    refine ⟨_, rfl, trivial, ?_⟩
                    simp only [List.getElem_toArray, List.getElem_cons_succ, List.getElem_cons_zero, Act.put, List.setIfInBounds_toArray, List.set_cons_zero, List.set_cons_succ]
                    refine lexH_yieldE rfl rfl ?_
                    apply Exists.intro
                    refine ⟨fun W hW => ?_, ?_⟩
                    focus (go_simp; exact rfl)
                    simp only [List.getElem_toArray, List.getElem_cons_succ, List.getElem_cons_zero, Act.put, List.setIfInBounds_toArray, List.set_cons_zero, List.set_cons_succ]
                    refine lexH_yieldE rfl rfl ?_
                    apply Exists.intro
                    refine ⟨fun W hW => ?_, ?_⟩
                    focus (go_simp; exact rfl)
                    simp only [List.getElem_toArray, List.getElem_cons_succ, List.getElem_cons_zero, Act.put, List.setIfInBounds_toArray, List.set_cons_zero, List.set_cons_succ]
                    refine lexH_yieldE rfl rfl ?_
                    apply Exists.intro
                    refine ⟨fun W hW => ?_, ?_⟩
                    focus (go_simp; exact rfl)
                    simp only [List.getElem_toArray, List.getElem_cons_succ, List.getElem_cons_zero, Act.put, List.setIfInBounds_toArray, List.set_cons_zero, List.set_cons_succ]
                    refine lexH_nil ?_
                    go_wp2_with (fail)
                    go_roundw
                    case rel => exact ⟨j + 1, by go_num, by omega, HS7.out⟩
                    case measure => simp [intOf]; omega
                  · rw [e1] at hN4 ⊢
                    clear hN4 ho4 e1 HS3 HN2
                    have hgt2 : ¬ ((o : Int) ≤ x) := by omega
                    go_wp2_with (fail)
                    go_quiet (fail)
                    have HS5 := Lib.hid (HS4.out.later (below_drewN (Below.refl w4.heap.size w4) nq))
                    clear HS4
                    go_wp2_with (fail)
                    go_roundw
                    case rel => exact ⟨j + 1, by go_num, by omega, HS5.out⟩
                    case measure => simp [intOf]; omega
                · obtain rfl : j = 2 := by omega
                  rw [show ((2 : Nat) : Int) = 2 from rfl]
                  go_wp2_with (fail)
                  go_roundw
                  case rel => exact ⟨o + 1, by go_num, by omega, HS.out⟩
                  case measure => simp [intOf]; omega
            · obtain rfl : o = 11 := by omega
              rw [show ((11 : Nat) : Int) = 11 from rfl]
              go_wp2_with (fail)
              refine (known_any wr).mono ?_
              rintro e w5 ⟨rfl, hb⟩
              have HB5 := Lib.hid (HS.out.bel.trans (hb.mono HS.out.le))
              clear hb
              go_wp2_with (fail)
              go_ret
              exact ⟨rfl, HB5.out⟩
    · have hlen2 : 200 < (len : Int) := by omega
      go_enter Try.func7, Try.ntmps7
      go_wp2_with (fail)
      refine (new6_any hn1 hn2 w).mono ?_
      intro e w1 hN
      obtain ⟨d, mb, tb, rfl, hS⟩ := StAt.new hn1 hn2 hN
      have HB := Lib.hid hS.bel
      have HLE := Lib.hid hS.le
      clear hS hN
      go_wp2_with (fail)
      refine (known_any w1).mono ?_
      rintro e w2 ⟨rfl, hb⟩
      have HB2 := Lib.hid (HB.out.trans (hb.mono HLE.out))
      clear hb
      go_wp2_with (fail)
      go_ret
      exact ⟨rfl, HB2.out⟩
  · go_enter Try.func7, Try.ntmps7
    go_wp2_with (fail)
    refine (newW hv w).mono ?_
    rintro e w' ⟨rfl, rfl⟩
    go_wp2_with (fail)
    refine (known_any w).mono ?_
    rintro e w2 ⟨rfl, hb⟩
    have HB2 := Lib.hid hb
    clear hb
    go_wp2_with (fail)
    go_ret
    exact ⟨rfl, HB2.out⟩
end Go.Proofs.Ytilcdnkjfbkpnaa
