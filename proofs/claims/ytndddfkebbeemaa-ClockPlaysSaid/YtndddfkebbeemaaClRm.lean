/-
  clock, the document's: Add, Remove.
-/
import Derived.Test.YtndddfkebbeemaaClRt
import Derived.Test.YtndddfkebbeemaaClPair
namespace Go.Proofs.Ytndddfkebbeemaa
open Go.RowKit Go.Shelf Go
attribute [local go_sem] Oper.semAt_some

theorem oneF (n : Int) (a t : Bool) : ∀ u, u ∈ (#[Value.int .i64 n, .bool a, .bool t] : Array Value).toList → u.oneCell' = true := by
  intro u hu
  simp at hu
  rcases hu with rfl | rfl | rfl <;> rfl
section
variable {w w' w1 : World} {r : Nat} {v v' : Value} {L L' : List Fr}
/-- Where the ring's cells are. -/
theorem RfV.src (h : RfV w r v L) : ∃ a c, v = .slice a L.length c ∧ (0 < L.length → ∃ ad, a = some ad ∧ ∀ j u, (recV encF L)[j]? = some u → w.cell? (ad.add j) = some u) := by
  obtain ⟨a, c, e, hR⟩ := RecsAt.of_owns h.ow
  exact ⟨a, c, e, hR.src encF_len⟩
set_option maxRecDepth 100000 in
set_option maxHeartbeats 4000000 in
theorem radd_any (h : RfV w r v L) (I : ClI L) (x : Int) : Calls Try.prog 12 #[.pointer (some ⟨r, 0, none⟩), .int .i64 x] w (RfT w r v L (.int .i64 (addE L x)) (addL L x)) := by
  have HR := Lib.hid h
  by_cases hx : x < 0
  · rw [show addE L x = 2 from if_pos hx, show addL L x = L from if_pos (.inl hx)]
    clear h
    go_enter Try.func12, Try.ntmps12
    go_wp2_with (fail)
    go_ret
    exact RfT.same HR.out (Below.refl _ _)
  · have HF := Lib.hid (rfind_any h.ref I.len x)
    cases hh : hasL L x with
    | true =>
      obtain ⟨k, hk⟩ := fnd_yes hh
      rw [hk] at HF
      rw [show addE L x = 8 from by unfold addE; rw [if_neg hx, hh]; rfl, show addL L x = L from if_pos (.inr hh)]
      clear h hk hh
      go_enter Try.func12, Try.ntmps12
      go_wp2_with (fail)
      refine HF.out.mono ?_
      rintro e w1 ⟨rfl, rfl⟩
      go_wp2_with (fail)
      go_ret
      exact RfT.same HR.out (Below.refl _ _)
    | false =>
      rw [fnd_no hh] at HF
      obtain ⟨X, rfl⟩ : ∃ X : Nat, x = X := ⟨x.toNat, by omega⟩
      have hal : addL L X = L ++ [(X, true, true)] := by
        unfold addL
        rw [if_neg (by rw [hh]; simp), Int.toNat_natCast]
      rw [show addE L X = 0 from by unfold addE; rw [if_neg hx, hh]; rfl, hal]
      obtain ⟨i0, hi, hz0, hz1, hz2⟩ := info_parts infoFr
      obtain ⟨a, c, hv, hsrc⟩ := h.src
      have hba : Below w.heap.size w (w.alloc (.cells #[] TFr)) := (Below.refl _ _).alloc (Nat.le_refl _) _
      have HW := Lib.hid (World.ownsRow_made w (e := TFr) (base := w.heap.size) (size := 3) #[] 0 (Nat.le_refl _) (Nat.zero_le _) (by simp))
      have HB := Lib.hid hba
      have HSR := Lib.hid (show 0 < L.length → ∃ ad', a = some ad' ∧ ∀ j u, (recV encF L)[j]? = some u → (w.alloc (.cells #[] TFr)).cell? (ad'.add j) = some u from fun hp => by
        obtain ⟨ad, e, hc⟩ := hsrc hp
        exact ⟨ad, e, fun j u hj => by
          have h5 := hc j u hj
          rw [hba.cell (World.block_lt_of_cell? _ _ h5)]
          exact h5⟩)
      have HLE := Lib.hid hba.size
      have HLN := Lib.hid I.len
      have c1 := (h.later hba).c0
      have c0 := h.c0
      rw [hv] at c0 c1
      have HV := Lib.hid hv
      have hln := I.len
      clear h hba hsrc hh hal hx I hv
      go_enter Try.func12, Try.ntmps12
      go_wp2_with (fail)
      refine HF.out.mono ?_
      rintro e w1 ⟨rfl, rfl⟩
      go_wp2_with (first | (at_builtin; refine wpList_append_src _ rfl _ _ 27 rfl w.heap.size 56 i0 _ 3 16 Try.underlying27 hi hz0 hz1 hz2 rfl (by decide) _ _ _ rfl HW.out a L.length c (recV encF L) rfl (recV_len encF_len _) HSR.out (recV_one encF_one _) (by unfold maxLen; omega) (by omega) HLE.out ?_; intro v3 w3 hown3 hgr3 _; have HB3 := Lib.hid ((Only.of_grown hgr3).below HB.out HB.out.size (fun k hk => (HW.out.lt k hk).1)); have HO3 := Lib.hid (show w3.ownsRow w.heap.size TFr 3 v3 L.length (recV encF L) from by rw [Nat.zero_add, List.nil_append] at hown3; exact hown3); clear hown3 hgr3) | (at_builtin; refine wpList_append_one w3 rfl _ _ 27 rfl w.heap.size 56 i0 _ 3 16 Try.underlying27 hi hz0 hz1 hz2 rfl (by decide) v3 L.length (recV encF L) #[.int .i64 (X : Int), .bool true, .bool true] HO3.out HB3.out.size rfl rfl rfl (oneF _ _ _) HLN.out (by omega) ?_; intro v4 w4 hown4 ho4 _; have HB4 := Lib.hid (ho4.below HB3.out HB3.out.size (fun k hk => (HO3.out.lt k hk).1)); have HT := Lib.hid (HR.out.set HB4.out (L' := L ++ [(X, true, true)]) (by rw [List.length_append, recV_append, recV_single]; exact hown4)); have c4 := (HR.out.later HB4.out).c0; have z4 := (HR.out.later HB4.out).fz; obtain ⟨a4, cc4, rfl, _⟩ := owns_slice hown4; clear hown4 ho4) | fail)
      go_ret
      exact ⟨rfl, _, HT.out⟩
set_option maxRecDepth 100000 in
set_option maxHeartbeats 4000000 in
theorem rrem_any (h : RfV w r v L) (I : ClI L) (x : Int) : Calls Try.prog 14 #[.pointer (some ⟨r, 0, none⟩), .int .i64 x] w (RfT w r v L (.int .i64 (noE L x)) (remL L x)) := by
  have HF := Lib.hid (rfind_any h.ref I.len x)
  have HR := Lib.hid h
  have c0 := h.c0
  cases hh : hasL L x with
  | false =>
    rw [fnd_no hh] at HF
    rw [show noE L x = 7 from by unfold noE; rw [hh]; rfl, show remL L x = L from by unfold remL; rw [hh]; rfl]
    clear h hh
    go_enter Try.func14, Try.ntmps14
    go_wp2_with (fail)
    refine HF.out.mono ?_
    rintro e w1 ⟨rfl, rfl⟩
    go_wp2_with (fail)
    go_ret
    exact RfT.same HR.out (Below.refl _ _)
  | true =>
    obtain ⟨k, hk⟩ := fnd_yes hh
    obtain ⟨hkl, hx⟩ := fnd_at hk
    rw [hk] at HF
    have hrem := remL_at I hkl
    rw [hx] at hrem
    have her : L.eraseIdx k = L.take k ++ L.drop (k + 1) := List.eraseIdx_eq_take_drop_succ L k
    rw [hrem.1, hrem.2, her]
    obtain ⟨i0, hi, hz0, hz1, hz2⟩ := info_parts infoFr
    obtain ⟨g, cap, hv, _, _, hglt, hcell, _⟩ := owns_where h.ow (by omega)
    have HV := Lib.hid hv
    have HCE := Lib.hid (show ∀ j u, (recV encF L)[j]? = some u → w.cell? ⟨g, j, none⟩ = some u from fun j u hj => by
      have hlt := (List.getElem?_eq_some_iff.1 hj).1
      rw [recV_len encF_len] at hlt
      exact hcell j u hlt hj)
    have hln := I.len
    have L1 := Lib.hid (show ∀ W, Kept w.heap.size w W → (loadVar 27 ⟨r, 0, none⟩).run Try.prog W = .ok (.slice (some ⟨g, 0, none⟩) L.length cap) W from
      fun W hW => run_loadVar_cell (fun _ => by kernel_rfl) (by rw [(HR.out.later hW.below).c0, HV.out]))
    have hcap : k ≤ cap := by
      obtain ⟨_, ⟨e, h0⟩ | ⟨g', c', cur, e, hb, hg, h1, h2, h3, ht⟩⟩ := h.ow
      · omega
      · rw [e] at hv
        simp only [Value.slice.injEq] at hv
        omega
    have S1 := Lib.hid (fun W (_ : Kept w.heap.size w W) => run_sub_to (P := Try.prog) Try.underlying27 sizeFr g 0 L.length cap k hcap W)
    obtain ⟨A2, hA2, hS2⟩ : ∃ A2 : Addr, (0 < L.length - (k + 1) → A2 = ⟨g, (k + 1) * 3, none⟩) ∧ ∀ W, Kept w.heap.size w W → (Instr.sliceAt 27 (.slice (some ⟨g, 0, none⟩) L.length cap) (some (.int .i64 ((k : Int) + 1))) none none).run Try.prog W = .ok (.slice (some A2) (L.length - (k + 1)) (cap - (k + 1))) W := by
      refine ⟨_, fun hp => ?_, fun W _ => run_sub_from (P := Try.prog) Try.underlying27 sizeFr g 0 L.length cap (k + 1) (by omega) W⟩
      have : ¬ cap = k + 1 := by
        obtain ⟨_, ⟨e, h0⟩ | ⟨g', c', cur, e, hb, hg, h1, h2, h3, ht⟩⟩ := h.ow
        · omega
        · rw [e] at hv
          simp only [Value.slice.injEq] at hv
          omega
      rw [if_neg this, Nat.zero_add]
    have S2 := Lib.hid hS2
    have HA2 := Lib.hid hA2
    have c0 : w.cell? ⟨r, 0, none⟩ = some (.slice (some ⟨g, 0, none⟩) L.length cap) := by rw [h.c0, hv]
    clear h hk hx hrem her hcell hS2 hA2 hh I hv hcap
    go_enter Try.func14, Try.ntmps14
    go_wp2_with (fail)
    refine HF.out.mono ?_
    rintro e w1 ⟨rfl, rfl⟩
    go_wp2_with (fail)
    refine wp_region_lexF (Kept w.heap.size w) [(0, false), (2, false), (3, false), (4, false), (5, false), (6, false), (7, false), (9, false), (10, false), (11, false), (12, false), (13, false), (14, false), (15, false), (1, true), (8, true), (16, true), (17, false), (18, false)] 19
      (by kernel_rfl) (by kernel_rfl) rfl (by kernel_rfl) (Below.refl _ w).drew ?_
    intro W0 hW0 hK0
    clear hW0 c0
    refine lexH_yieldE rfl rfl ?_
    apply Exists.intro
    refine ⟨fun W hW => ?_, ?_⟩
    focus (go_simp; exact rfl)
    simp only [List.getElem_toArray, List.getElem_cons_zero, Act.put, List.setIfInBounds_toArray, List.set_cons_zero, List.set_cons_succ]
    refine lexH_yieldE rfl rfl ?_
    apply Exists.intro
    refine ⟨fun W hW => ?_, ?_⟩
    focus (go_simp; exact rfl)
    simp only [List.getElem_toArray, List.getElem_cons_succ, List.getElem_cons_zero, Act.put, List.setIfInBounds_toArray, List.set_cons_zero, List.set_cons_succ]
    refine lexH_yieldE rfl rfl ?_
    apply Exists.intro
    refine ⟨fun W hW => ?_, ?_⟩
    focus (go_simp; exact rfl)
    simp only [List.getElem_toArray, List.getElem_cons_succ, List.getElem_cons_zero, Act.put, List.setIfInBounds_toArray, List.set_cons_zero, List.set_cons_succ]
    refine lexH_yieldE rfl rfl ?_
    apply Exists.intro
    refine ⟨fun W hW => ?_, ?_⟩
    focus (go_simp; exact rfl)
    simp only [List.getElem_toArray, List.getElem_cons_succ, List.getElem_cons_zero, Act.put, List.setIfInBounds_toArray, List.set_cons_zero, List.set_cons_succ]
    refine lexH_load rfl rfl _ _ rfl rfl L1.out ?_
    simp only [List.getElem_toArray, List.getElem_cons_succ, List.getElem_cons_zero, Act.put, List.setIfInBounds_toArray, List.set_cons_zero, List.set_cons_succ]
    refine lexH_yieldE rfl rfl ?_
    apply Exists.intro
    refine ⟨fun W hW => ?_, ?_⟩
    focus (go_simp; exact rfl)
    simp only [List.getElem_toArray, List.getElem_cons_succ, List.getElem_cons_zero, Act.put, List.setIfInBounds_toArray, List.set_cons_zero, List.set_cons_succ]
    refine lexH_slice rfl rfl _ _ _ _ _ rfl S1.out ?_
    simp only [List.getElem_toArray, List.getElem_cons_succ, List.getElem_cons_zero, Act.put, List.setIfInBounds_toArray, List.set_cons_zero, List.set_cons_succ]
    refine lexH_yieldE rfl rfl ?_
    apply Exists.intro
    refine ⟨fun W hW => ?_, ?_⟩
    focus (go_simp; exact rfl)
    simp only [List.getElem_toArray, List.getElem_cons_succ, List.getElem_cons_zero, Act.put, List.setIfInBounds_toArray, List.set_cons_zero, List.set_cons_succ]
    refine lexH_yieldE rfl rfl ?_
    apply Exists.intro
    refine ⟨fun W hW => ?_, ?_⟩
    focus (go_simp; exact rfl)
    simp only [List.getElem_toArray, List.getElem_cons_succ, List.getElem_cons_zero, Act.put, List.setIfInBounds_toArray, List.set_cons_zero, List.set_cons_succ]
    refine lexH_yieldE rfl rfl ?_
    apply Exists.intro
    refine ⟨fun W hW => ?_, ?_⟩
    focus (go_simp; exact rfl)
    simp only [List.getElem_toArray, List.getElem_cons_succ, List.getElem_cons_zero, Act.put, List.setIfInBounds_toArray, List.set_cons_zero, List.set_cons_succ]
    refine lexH_load rfl rfl _ _ rfl rfl L1.out ?_
    simp only [List.getElem_toArray, List.getElem_cons_succ, List.getElem_cons_zero, Act.put, List.setIfInBounds_toArray, List.set_cons_zero, List.set_cons_succ]
    refine lexH_yieldE rfl rfl ?_
    apply Exists.intro
    refine ⟨fun W hW => ?_, ?_⟩
    focus (go_simp; exact rfl)
    simp only [List.getElem_toArray, List.getElem_cons_succ, List.getElem_cons_zero, Act.put, List.setIfInBounds_toArray, List.set_cons_zero, List.set_cons_succ]
    refine lexH_yieldE rfl rfl ?_
    apply Exists.intro
    refine ⟨fun W hW => ?_, ?_⟩
    focus (go_simp; exact rfl)
    simp only [List.getElem_toArray, List.getElem_cons_succ, List.getElem_cons_zero, Act.put, List.setIfInBounds_toArray, List.set_cons_zero, List.set_cons_succ]
    rw [show IntKind.i64.wrap ((k : Int) + 1) = (k : Int) + 1 by rw [IntKind.wrap_i64]; omega]
    refine lexH_slice rfl rfl _ _ _ _ _ rfl S2.out ?_
    simp only [List.getElem_toArray, List.getElem_cons_succ, List.getElem_cons_zero, Act.put, List.setIfInBounds_toArray, List.set_cons_zero, List.set_cons_succ]
    refine lexH_eff rfl rfl ?_
    unfold Oper.wp
    go_simp
    have HK1 := Lib.hid (hK0.below.alloc hK0.below.size (.cells #[] 56))
    have HO1 := Lib.hid (World.ownsRow_made W0 (e := 56) (base := w.heap.size) (size := 3) #[] 0 hK0.below.size (Nat.zero_le _) (by simp))
    refine ⟨HK1.out, ?_⟩
    clear hK0
    generalize W0.alloc (.cells #[] 56) = W1 at HK1 HO1 ⊢
    generalize W0.heap.size = b1 at HO1 ⊢
    refine lexH_append_src _ rfl rfl _ _ 27 rfl w.heap.size 56 i0 _ 3 16 Try.underlying27 hi hz0 hz1 hz2 rfl (by decide) _ _ _ HO1.out HK1.out.size (some ⟨g, 0, none⟩) k cap (recV encF (L.take k)) rfl rfl ?q1 ?q2 (recV_one encF_one _) ?q3 (by decide) ?_
    case q1 => rw [recV_len encF_len, List.length_take, Nat.min_eq_left (by omega)]
    case q2 =>
      refine fun _ => ⟨_, rfl, fun j u hj => ?_⟩
      have hj2 : j < k * 3 := by
        have := (List.getElem?_eq_some_iff.1 hj).1
        rw [recV_len encF_len, List.length_take, Nat.min_eq_left (by omega)] at this
        exact this
      rw [← recV_take encF_len, List.getElem?_take_of_lt hj2] at hj
      have hc := HCE.out j u hj
      rw [Addr.add_lit, Nat.zero_add, HK1.out.cell (World.block_lt_of_cell? _ _ hc)]
      exact hc
    case q3 => omega
    intro v2 W2 hown2 ho2 _
    have HO2 := Lib.hid hown2
    have HK2 := Lib.hid (ho2.below HK1.out HK1.out.size (fun j hj => (HO1.out.lt j hj).1))
    refine ⟨HK2.out, ?_⟩
    clear hown2 ho2 HO1 HK1
    simp only [List.getElem_toArray, List.getElem_cons_succ, List.getElem_cons_zero, Act.put, List.setIfInBounds_toArray, List.set_cons_zero, List.set_cons_succ]
    refine lexH_append_src _ rfl rfl _ _ 27 rfl w.heap.size 56 i0 _ 3 16 Try.underlying27 hi hz0 hz1 hz2 rfl (by decide) _ _ _ HO2.out HK2.out.size (some A2) (L.length - (k + 1)) (cap - (k + 1)) (recV encF (L.drop (k + 1))) rfl rfl ?q4 ?q5 (recV_one encF_one _) ?q6 (by decide) ?_
    case q4 => rw [recV_len encF_len, List.length_drop]
    case q5 =>
      refine fun hp => ⟨_, rfl, fun j u hj => ?_⟩
      rw [← recV_drop encF_len, List.getElem?_drop] at hj
      have hc := HCE.out _ u hj
      rw [HA2.out hp, Addr.add_lit, HK2.out.cell (World.block_lt_of_cell? _ _ hc)]
      exact hc
    case q6 => omega
    intro v3 W3 hown3 ho3 _
    have HK3 := Lib.hid (ho3.below HK2.out HK2.out.size (fun j hj => (HO2.out.lt j hj).1))
    have hlen : (L.take k ++ L.drop (k + 1)).length = 0 + k + (L.length - (k + 1)) := by
      rw [List.length_append, List.length_take, Nat.min_eq_left (by omega), List.length_drop]; omega
    have hO3 : W3.ownsRow w.heap.size 56 3 v3 (L.take k ++ L.drop (k + 1)).length (recV encF (L.take k ++ L.drop (k + 1))) := by
      rw [hlen, recV_append]; simpa using hown3
    have HT := Lib.hid (HR.out.set HK3.out hO3)
    refine ⟨HK3.out, ?_⟩
    have c3 := (HR.out.later HK3.out).c0
    have f3 := (HR.out.later HK3.out).fz
    obtain ⟨a3, cap3, hv3, _⟩ := owns_slice hO3
    generalize (L.take k ++ L.drop (k + 1)).length = q at hv3
    subst hv3
    clear hO3 hown3 ho3 HO2 HK2 HK3 hlen
    simp only [List.getElem_toArray, List.getElem_cons_succ, List.getElem_cons_zero, Act.put, List.setIfInBounds_toArray, List.set_cons_zero, List.set_cons_succ]
    refine lexH_yieldE rfl rfl ?_
    apply Exists.intro
    refine ⟨fun W hW => ?_, ?_⟩
    focus (go_simp; exact rfl)
    simp only [List.getElem_toArray, List.getElem_cons_succ, List.getElem_cons_zero, Act.put, List.setIfInBounds_toArray, List.set_cons_zero, List.set_cons_succ]
    refine lexH_yieldE rfl rfl ?_
    apply Exists.intro
    refine ⟨fun W hW => ?_, ?_⟩
    focus (go_simp; exact rfl)
    simp only [List.getElem_toArray, List.getElem_cons_succ, List.getElem_cons_zero, Act.put, List.setIfInBounds_toArray, List.set_cons_zero, List.set_cons_succ]
    refine lexH_last rfl rfl ?_
    unfold Oper.wp
    go_simp
    go_wp2_with (fail)
    go_ret
    exact ⟨rfl, _, HT.out⟩
end
end Go.Proofs.Ytndddfkebbeemaa
