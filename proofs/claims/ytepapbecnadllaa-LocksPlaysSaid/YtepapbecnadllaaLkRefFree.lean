/-
  locks' document: Free.
-/
import Derived.Test.YtepapbecnadllaaLkRefTry
import Derived.Test.YtepapbecnadllaaLexApp
namespace Go.Proofs.Ytepapbecnadllaa
open Go.RowKit Go

theorem Rel.split {n : Nat} {H : Nat → Int} {M : List (Int × Nat)} (R : Rel n H M) {i : Nat} {who : Int} {l : Nat} (h : M[i]? = some (who, l)) : Rel n (updH H l (-1)) (M.take i ++ M.drop (i + 1)) := by
  have hi := (List.getElem?_eq_some_iff.1 h).1
  have hm : M = M.take i ++ (who, l) :: M.drop (i + 1) := by
    have e : M[i] = (who, l) := (List.getElem?_eq_some_iff.1 h).2
    rw [← e, ← List.drop_eq_getElem_cons hi, List.take_append_drop]
  have hmem := R.mem
  have hnd := R.nodup
  have hwl := (R.mem who l).1 (List.mem_of_getElem? h)
  generalize M.take i = A at *
  generalize M.drop (i + 1) = C at *
  rw [hm, List.nodup_append, List.nodup_cons] at hnd
  obtain ⟨n1, ⟨n2, n3⟩, n4⟩ := hnd
  have hA : (who, l) ∉ A := fun h => n4 _ h _ List.mem_cons_self rfl
  refine ⟨fun x y => ?_, ?_, fun k hk => ?_, fun k => ?_, R.n1⟩
  · have h1 := hmem x y
    rw [hm, List.mem_append, List.mem_cons] at h1
    rw [List.mem_append]
    unfold updH
    by_cases e : y = l
    · subst e
      rw [if_pos rfl]
      constructor
      · intro hx
        have h2 := h1.1 (hx.imp id .inr)
        have : x = who := by omega
        subst this
        rcases hx with hx | hx
        · exact absurd hx hA
        · exact absurd hx n2
      · rintro ⟨h2, h3⟩
        omega
    · rw [if_neg e, ← h1]
      constructor
      · exact fun hx => hx.imp id .inr
      · rintro (hx | hx | hx)
        · exact .inl hx
        · cases hx
          exact absurd rfl e
        · exact .inr hx
  · rw [List.nodup_append]
    exact ⟨n1, n3, fun a ha b hb => n4 a ha b (List.mem_cons_of_mem _ hb)⟩
  · unfold updH
    split
    · rfl
    · exact R.free k hk
  · unfold updH
    split
    · omega
    · exact R.low k
theorem twV_take : ∀ (M : List (Int × Nat)) (i : Nat), (twV M).take (i * 2) = twV (M.take i)
  | [], _ => by simp [twV]
  | _ :: _, 0 => by simp [twV]
  | p :: r, i + 1 => by
    have ih := twV_take r i
    rw [show (i + 1) * 2 = i * 2 + 2 by omega]
    simp [twV, ih]
theorem twV_drop : ∀ (M : List (Int × Nat)) (i : Nat), (twV M).drop (i * 2) = twV (M.drop i)
  | [], _ => by simp [twV]
  | _ :: _, 0 => by simp
  | p :: r, i + 1 => by
    have ih := twV_drop r i
    rw [show (i + 1) * 2 = i * 2 + 2 by omega]
    simp [twV, ih]
theorem twV_one : ∀ (M : List (Int × Nat)), ∀ u ∈ twV M, u.oneCell' = true
  | [], _, h => absurd h List.not_mem_nil
  | p :: r, u, h => by
    simp only [twV, List.mem_cons] at h
    rcases h with rfl | rfl | h
    · rfl
    · rfl
    · exact twV_one r u h

section
variable {w : World} {B r n : Nat} {M : List (Int × Nat)} {v : Value} {H : Nat → Int}
theorem RefAt.part (R : RefAt w B r n M v) (k : Nat) (hk : k < M.length) : ∃ g cap, v = .slice (some ⟨g, 0, none⟩) M.length cap ∧ M.length ≤ cap ∧
    ∀ j u, (twV M)[j]? = some u → w.cell? ⟨g, j, none⟩ = some u := by
  obtain ⟨hl, ⟨_, h0⟩ | ⟨g, cap, cur, e, _, hh, hnc, _, _, ht⟩⟩ := R.own
  · omega
  · refine ⟨g, cap, e, hnc, fun j u hj => ?_⟩
    have hlt := (List.getElem?_eq_some_iff.1 hj).1
    rw [hl] at hlt
    rw [cell_of_row _ _ _ _ _ _ hh, ← hj, ← ht, List.getElem?_take_of_lt hlt]
    simp
/-- The list laid anew, in a block of its own. -/
theorem RefTurn.fresh {w w3 : World} {M' : List (Int × Nat)} {v' : Value} {H' : Nat → Int} (R : RefAt w B r n M v) (hown : w3.ownsRow w.heap.size 55 2 v' M'.length (twV M')) (hb : Below w.heap.size w w3) (Q : Rel n H' M')
    (hl : M'.length ≤ M.length + 1) : RefTurn w B r n M v H' (w3.setCell ⟨r, 1, none⟩ v') := by
  have hlt := R.row.lt
  have hst := Only.setCell (S := Eq r) w3 ⟨r, 1, none⟩ rfl v'
  exact ⟨M', v', RefAt.set (R.row.later hb) R.rB (Nat.le_trans R.bB hb.size) (owns_base hown (fun k hk => Nat.le_trans R.bB (hown.lt k hk).1)), Q, hl, (Only.of_below hb).trans (hst.mono (fun _ h => .inl h.symm)), fun k hk => .inr (.inl (hown.lt k hk).1)⟩
def RefFreeAt (w : World) (B r n : Nat) (M : List (Int × Nat)) (v : Value) (H : Nat → Int) (who lock : Int) (e : Ending) (w' : World) : Prop :=
  e = .returned (.int .i64 (freeE n H who lock)) ∧ RefTurn w B r n M v (freeH n H who lock) w'
theorem RefFreeAt.same (R : RefAt w B r n M v) (Q : Rel n H M) {who lock : Int} (u : Int) (he : freeE n H who lock = u) (hu : u ≠ 0) : RefFreeAt w B r n M v H who lock (.returned (.int .i64 u)) w := by
  unfold RefFreeAt
  rw [free_no (by rw [he]; exact hu), he]
  exact ⟨rfl, RefTurn.same R Q⟩

theorem sizeTwo (w : World) : (sizeOf 55).run Try.prog w = .ok 2 w := by kernel_rfl

set_option maxRecDepth 100000 in
set_option maxHeartbeats 2000000 in
theorem reffree_any (R : RefAt w B r n M v) (Q : Rel n H M) (hm : M.length ≤ 900) (who lock : Int) : Calls Try.prog 16 #[.pointer (some ⟨r, 0, none⟩), .int .i64 who, .int .i64 lock] w (RefFreeAt w B r n M v H who lock) := by
  obtain ⟨i0, hi, hz0, hz1, hz2⟩ := info_parts infoTwo
  have c0 := R.c0
  have HRA := Lib.hid R
  have HQ := Lib.hid Q
  have hn := Q.n1
  by_cases ha : askB n who lock = true
  · obtain ⟨l, rfl, hl, hw⟩ := askB_nat ha
    have c1 := R.c1
    have HEE := Lib.hid (show freeE n H who l = if H l = who then 0 else 7 from if_pos ha)
    obtain ⟨a, cap, hv, hr⟩ := R.slice
    have HR := Lib.hid hr
    have HV := Lib.hid hv
    rw [hv] at c1
    clear R Q hr hv ha
    go_enter Try.func16, Try.ntmps16
    go_wp2_with (fail)
    clear c0
    go_loop [7] (fun i => ∃ k : Nat, k ≤ M.length ∧ i = .int .i64 k ∧ ∀ j, j < k → ∀ x (y : Nat), M[j]? = some (x, y) → ¬ (x = who ∧ y = l)) (fun i => M.length - (intOf i).toNat)
    case atStart => exact ⟨0, Nat.zero_le _, rfl, fun j h => absurd h (Nat.not_lt_zero _)⟩
    case round =>
      obtain ⟨k, hk, rfl, hn⟩ := hrel
      have HN := Lib.hid hn
      clear hn
      by_cases hlt : k < M.length
      · obtain ⟨g, x, y, rfl, hm2, cx, cl⟩ := HR.out k hlt
        have HM := Lib.hid hm2
        clear hm2
        by_cases hx : x = who
        · subst hx
          by_cases hy : y = l
          · subst hy
            have hmm := (HQ.out.mem x y).1 (List.mem_of_getElem? HM.out)
            have HFE := Lib.hid (show freeE n H x y = 0 by rw [HEE.out, if_pos hmm.2])
            have HFH := Lib.hid (show freeH n H x y = updH H y (-1) by unfold freeH; rw [HFE.out, if_pos rfl, Int.toNat_natCast])
            have HRL := Lib.hid (HQ.out.split HM.out)
            obtain ⟨g', cap', e, hnc, hcell⟩ := HRA.out.part k hlt
            have e2 := HV.out.symm.trans e
            cases e2
            have HCE := Lib.hid hcell
            have L1 := Lib.hid (show ∀ W, Kept w.heap.size w W → (loadVar 29 ⟨r, 1, none⟩).run Try.prog W = .ok (.slice (some ⟨g, 0, none⟩) M.length cap) W from
              fun W hW => run_loadVar_cell (fun _ => by kernel_rfl) (by rw [(HRA.out.later hW.below).c1, HV.out]))
            have S1 := Lib.hid (fun W (_ : Kept w.heap.size w W) => run_sub_to (P := Try.prog) Try.underlying29 sizeTwo g 0 M.length cap k (by omega) W)
            obtain ⟨A2, hA2, hS2⟩ : ∃ A2 : Addr, (0 < M.length - (k + 1) → A2 = ⟨g, (k + 1) * 2, none⟩) ∧ ∀ W, Kept w.heap.size w W → (Instr.sliceAt 29 (.slice (some ⟨g, 0, none⟩) M.length cap) (some (.int .i64 ((k : Int) + 1))) none none).run Try.prog W = .ok (.slice (some A2) (M.length - (k + 1)) (cap - (k + 1))) W :=
              ⟨_, fun h => by rw [if_neg (by omega), Nat.zero_add], fun W _ => run_sub_from (P := Try.prog) Try.underlying29 sizeTwo g 0 M.length cap (k + 1) (by omega) W⟩
            have S2 := Lib.hid hS2
            have HA2 := Lib.hid hA2
            clear hS2 hA2
            clear hmm hcell e
            go_wp2_with (fail)
            refine wp_region_lexF (Kept w.heap.size w) [(0, false), (2, false), (3, false), (4, false), (5, false), (6, false), (7, false), (9, false), (10, false), (11, false), (12, false), (13, false), (14, false), (15, false), (1, true), (8, true), (16, true), (17, false), (18, false)] 19
              (by kernel_rfl) (by kernel_rfl) rfl (by kernel_rfl) (Below.refl _ w).drew ?_
            intro W0 hW0 hK0
            clear hW0 c1 cx cl
            refine lexH_yieldE rfl rfl ?_
            apply Exists.intro
            refine ⟨fun W hW => ?_, ?_⟩
            focus (go_simp; exact rfl)
            simp only [List.getElem_toArray, List.getElem_cons_zero, Act.put, List.setIfInBounds_toArray, List.set_cons_zero, List.set_cons_succ]
            refine lexH_yieldE rfl rfl ?_
            apply Exists.intro
            refine ⟨fun W hW => ?_, ?_⟩
            focus (go_simp; exact rfl)
            simp only [List.getElem_toArray, List.getElem_cons_succ, List.getElem_cons_zero, Act.put, List.setIfInBounds_toArray, List.set_cons_zero, List.set_cons_succ]
            refine lexH_yieldE rfl rfl ?_
            apply Exists.intro
            refine ⟨fun W hW => ?_, ?_⟩
            focus (go_simp; exact rfl)
            simp only [List.getElem_toArray, List.getElem_cons_succ, List.getElem_cons_zero, Act.put, List.setIfInBounds_toArray, List.set_cons_zero, List.set_cons_succ]
            refine lexH_yieldE rfl rfl ?_
            apply Exists.intro
            refine ⟨fun W hW => ?_, ?_⟩
            focus (go_simp; exact rfl)
            simp only [List.getElem_toArray, List.getElem_cons_succ, List.getElem_cons_zero, Act.put, List.setIfInBounds_toArray, List.set_cons_zero, List.set_cons_succ]
            refine lexH_load rfl rfl _ _ rfl rfl L1.out ?_
            simp only [List.getElem_toArray, List.getElem_cons_succ, List.getElem_cons_zero, Act.put, List.setIfInBounds_toArray, List.set_cons_zero, List.set_cons_succ]
            refine lexH_yieldE rfl rfl ?_
            apply Exists.intro
            refine ⟨fun W hW => ?_, ?_⟩
            focus (go_simp; exact rfl)
            simp only [List.getElem_toArray, List.getElem_cons_succ, List.getElem_cons_zero, Act.put, List.setIfInBounds_toArray, List.set_cons_zero, List.set_cons_succ]
            refine lexH_slice rfl rfl _ _ _ _ _ rfl S1.out ?_
            simp only [List.getElem_toArray, List.getElem_cons_succ, List.getElem_cons_zero, Act.put, List.setIfInBounds_toArray, List.set_cons_zero, List.set_cons_succ]
            refine lexH_yieldE rfl rfl ?_
            apply Exists.intro
            refine ⟨fun W hW => ?_, ?_⟩
            focus (go_simp; exact rfl)
            simp only [List.getElem_toArray, List.getElem_cons_succ, List.getElem_cons_zero, Act.put, List.setIfInBounds_toArray, List.set_cons_zero, List.set_cons_succ]
            refine lexH_yieldE rfl rfl ?_
            apply Exists.intro
            refine ⟨fun W hW => ?_, ?_⟩
            focus (go_simp; exact rfl)
            simp only [List.getElem_toArray, List.getElem_cons_succ, List.getElem_cons_zero, Act.put, List.setIfInBounds_toArray, List.set_cons_zero, List.set_cons_succ]
            refine lexH_yieldE rfl rfl ?_
            apply Exists.intro
            refine ⟨fun W hW => ?_, ?_⟩
            focus (go_simp; exact rfl)
            simp only [List.getElem_toArray, List.getElem_cons_succ, List.getElem_cons_zero, Act.put, List.setIfInBounds_toArray, List.set_cons_zero, List.set_cons_succ]
            refine lexH_load rfl rfl _ _ rfl rfl L1.out ?_
            simp only [List.getElem_toArray, List.getElem_cons_succ, List.getElem_cons_zero, Act.put, List.setIfInBounds_toArray, List.set_cons_zero, List.set_cons_succ]
            refine lexH_yieldE rfl rfl ?_
            apply Exists.intro
            refine ⟨fun W hW => ?_, ?_⟩
            focus (go_simp; exact rfl)
            simp only [List.getElem_toArray, List.getElem_cons_succ, List.getElem_cons_zero, Act.put, List.setIfInBounds_toArray, List.set_cons_zero, List.set_cons_succ]
            refine lexH_yieldE rfl rfl ?_
            apply Exists.intro
            refine ⟨fun W hW => ?_, ?_⟩
            focus (go_simp; exact rfl)
            simp only [List.getElem_toArray, List.getElem_cons_succ, List.getElem_cons_zero, Act.put, List.setIfInBounds_toArray, List.set_cons_zero, List.set_cons_succ]
            rw [show IntKind.i64.wrap ((k : Int) + 1) = (k : Int) + 1 by rw [IntKind.wrap_i64]; omega]
            refine lexH_slice rfl rfl _ _ _ _ _ rfl S2.out ?_
            simp only [List.getElem_toArray, List.getElem_cons_succ, List.getElem_cons_zero, Act.put, List.setIfInBounds_toArray, List.set_cons_zero, List.set_cons_succ]
            refine lexH_eff rfl rfl ?_
            unfold Oper.wp
            go_simp
            have HK1 := Lib.hid (hK0.below.alloc hK0.below.size (.cells #[] 55))
            have HO1 := Lib.hid (World.ownsRow_made W0 (e := 55) (base := w.heap.size) (size := 2) #[] 0 hK0.below.size (Nat.zero_le _) (by simp))
            refine ⟨HK1.out, ?_⟩
            clear hK0
            generalize W0.alloc (.cells #[] 55) = W1 at HK1 HO1 ⊢
            generalize W0.heap.size = b1 at HO1 ⊢
            refine lexH_append_src _ rfl rfl _ _ 29 rfl w.heap.size 55 i0 _ 2 16 Try.underlying29 hi hz0 hz1 hz2 rfl (by decide) _ _ _ HO1.out HK1.out.size (some ⟨g, 0, none⟩) k cap (twV (M.take k)) rfl rfl ?q1 ?q2 (twV_one _) ?q3 (by decide) ?_
            case q1 => rw [twV_len, List.length_take, Nat.min_eq_left (by omega)]
            case q2 =>
              refine fun _ => ⟨_, rfl, fun j u hj => ?_⟩
              have hj2 : j < k * 2 := by
                have := (List.getElem?_eq_some_iff.1 hj).1
                rw [twV_len, List.length_take, Nat.min_eq_left (by omega)] at this
                exact this
              rw [← twV_take, List.getElem?_take_of_lt hj2] at hj
              have hc := HCE.out j u hj
              rw [Addr.add_lit, Nat.zero_add, HK1.out.cell (World.block_lt_of_cell? _ _ hc)]
              exact hc
            case q3 => omega
            intro v2 W2 hown2 ho2 _
            have HO2 := Lib.hid hown2
            have HK2 := Lib.hid (ho2.below HK1.out HK1.out.size (fun j hj => (HO1.out.lt j hj).1))
            refine ⟨HK2.out, ?_⟩
            clear hown2 ho2 HO1 HK1
            simp only [List.getElem_toArray, List.getElem_cons_succ, List.getElem_cons_zero, Act.put, List.setIfInBounds_toArray, List.set_cons_zero, List.set_cons_succ]
            refine lexH_append_src _ rfl rfl _ _ 29 rfl w.heap.size 55 i0 _ 2 16 Try.underlying29 hi hz0 hz1 hz2 rfl (by decide) _ _ _ HO2.out HK2.out.size (some A2) (M.length - (k + 1)) (cap - (k + 1)) (twV (M.drop (k + 1))) rfl rfl ?q4 ?q5 (twV_one _) ?q6 (by decide) ?_
            case q4 => rw [twV_len, List.length_drop]
            case q5 =>
              refine fun hp => ⟨_, rfl, fun j u hj => ?_⟩
              rw [← twV_drop, List.getElem?_drop] at hj
              have hc := HCE.out _ u hj
              rw [HA2.out hp, Addr.add_lit, HK2.out.cell (World.block_lt_of_cell? _ _ hc)]
              exact hc
            case q6 => omega
            intro v3 W3 hown3 ho3 _
            have HK3 := Lib.hid (ho3.below HK2.out HK2.out.size (fun j hj => (HO2.out.lt j hj).1))
            have hlen : (M.take k ++ M.drop (k + 1)).length = 0 + k + (M.length - (k + 1)) := by
              rw [List.length_append, List.length_take, Nat.min_eq_left (by omega), List.length_drop]; omega
            have hO3 : W3.ownsRow w.heap.size 55 2 v3 (M.take k ++ M.drop (k + 1)).length (twV (M.take k ++ M.drop (k + 1))) := by
              rw [hlen, twV_append]; simpa using hown3
            have HT := Lib.hid (show RefFreeAt w B r n M v H x y (.returned (.int .i64 0)) (W3.setCell ⟨r, 1, none⟩ v3) from by
              unfold RefFreeAt
              rw [HFE.out, HFH.out]
              exact ⟨rfl, RefTurn.fresh HRA.out hO3 HK3.out HRL.out (by rw [hlen]; omega)⟩)
            refine ⟨HK3.out, ?_⟩
            have c3 := (HRA.out.later HK3.out).c1
            have f3 : W3.frozen? ⟨r, 1, none⟩ = false := (HRA.out.row.later HK3.out).frozen 1
            obtain ⟨a3, cap3, hv3, _⟩ := owns_slice hO3
            generalize (M.take k ++ M.drop (k + 1)).length = q at hv3
            subst hv3
            clear hO3 hown3 ho3 HO2 HK2 HK3 hlen
            simp only [List.getElem_toArray, List.getElem_cons_succ, List.getElem_cons_zero, Act.put, List.setIfInBounds_toArray, List.set_cons_zero, List.set_cons_succ]
            refine lexH_yieldE rfl rfl ?_
            apply Exists.intro
            refine ⟨fun W hW => ?_, ?_⟩
            focus (go_simp; exact rfl)
            simp only [List.getElem_toArray, List.getElem_cons_succ, List.getElem_cons_zero, Act.put, List.setIfInBounds_toArray, List.set_cons_zero, List.set_cons_succ]
            refine lexH_yieldE rfl rfl ?_
            apply Exists.intro
            refine ⟨fun W hW => ?_, ?_⟩
            focus (go_simp; exact rfl)
            simp only [List.getElem_toArray, List.getElem_cons_succ, List.getElem_cons_zero, Act.put, List.setIfInBounds_toArray, List.set_cons_zero, List.set_cons_succ]
            refine lexH_last rfl rfl ?_
            unfold Oper.wp
            go_simp
            go_wp2_with (fail)
            go_ret
            exact HT.out
          · have HM2 := Lib.hid (show ∀ j, j < k + 1 → ∀ z (q : Nat), M[j]? = some (z, q) → ¬ (z = x ∧ q = l) from fun j hj z q hq => by
              by_cases h : j < k
              · exact HN.out j h z q hq
              · obtain rfl : j = k := by omega
                have e := HM.out
                rw [hq] at e
                cases e
                exact fun h => hy h.2)
            have hy2 : ((y : Int) == (l : Int)) = false := by simp; omega
            clear hy
            go_wp2_with (fail)
            go_round
            case rel => exact ⟨k + 1, hlt, by go_num, HM2.out⟩
            case measure => simp [intOf]; omega
        · have HM2 := Lib.hid (show ∀ j, j < k + 1 → ∀ z (q : Nat), M[j]? = some (z, q) → ¬ (z = who ∧ q = l) from fun j hj z q hq => by
            by_cases h : j < k
            · exact HN.out j h z q hq
            · obtain rfl : j = k := by omega
              have e := HM.out
              rw [hq] at e
              cases e
              exact fun h => hx h.1)
          have ex : (x == who) = false := by simpa using hx
          clear hx
          go_wp2_with (fail)
          go_round
          case rel => exact ⟨k + 1, hlt, by go_num, HM2.out⟩
          case measure => simp [intOf]; omega
      · obtain rfl : k = M.length := by omega
        have hne : H l ≠ who := fun e => by
          obtain ⟨i, hi, e2⟩ := List.mem_iff_getElem.1 ((HQ.out.mem who l).2 ⟨hw, e⟩)
          exact HN.out i hi who l (by rw [List.getElem?_eq_getElem hi, e2]) ⟨rfl, rfl⟩
        have HT := Lib.hid (RefFreeAt.same (who := who) (lock := l) HRA.out HQ.out 7 (by rw [HEE.out, if_neg hne]) (by decide))
        clear hne
        go_wp2_with (fail)
        go_ret
        exact HT.out
  · have HS := Lib.hid (RefFreeAt.same (who := who) (lock := lock) R Q 2 (if_neg ha) (by decide))
    have hcs := not_askB ha
    clear R Q ha
    rcases hcs with h1 | ⟨h1, h2⟩ | ⟨h1, h2, h3⟩
    all_goals
      go_enter Try.func16, Try.ntmps16
      go_wp2_with (fail)
      go_ret
      exact HS.out
end
end Go.Proofs.Ytepapbecnadllaa
