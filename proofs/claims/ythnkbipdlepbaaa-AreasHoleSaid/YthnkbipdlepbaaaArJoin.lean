/-
  areas: the landed join: a run behind the others.
-/
import Derived.Test.YthnkbipdlepbaaaArPt
import Derived.Test.YthnkbipdlepbaaaLexApp
namespace Go.Proofs.Ythnkbipdlepbaaa
open Go.RowKit Go.Shelf Go
attribute [local go_sem] Oper.semAt_some

/-- The list, with a run behind it. -/
def JoinP (w : World) (B : Nat) (v : Value) (M : Rns) (e : Ending) (w' : World) : Prop := ∃ v', e = .returned v' ∧ w'.ownsRow B TRun 3 v' M.length (recV encR M) ∧ Only (fun k => v.ownBlock = some k) w w'
theorem wrap_in (n : Int) (h1 : 0 ≤ n) (h2 : n < 4294967296) : IntKind.i64.wrap n = n := by rw [IntKind.wrap_i64]; omega
theorem lastR_mem {M : Rns} (h : 0 < M.length) : lastR M ∈ M := by
  rw [lastR, getD_at _ (by omega)]
  exact List.getElem_mem _
theorem recV_more (M : Rns) (hM : 0 < M.length) (b : Nat) : (recV encR M).set ((M.length - 1) * 3 + 1) (.int .i64 (((lastR M).2.1 + b : Nat) : Int)) = recV encR (M.set (M.length - 1) ((lastR M).1, (lastR M).2.1 + b, (lastR M).2.2)) := by
  rcases List.eq_nil_or_concat M with h | ⟨P, y, h⟩
  · subst h; exact absurd hM (by decide)
  · subst h
    rw [List.concat_eq_append, lastR_append, lastR_set, recV_append, recV_append, recV_single, recV_single]
    have h1 : (P ++ [y]).length - 1 = P.length := by simp
    rw [h1, List.set_append_right _ _ (by rw [recV_len encR_len]; omega), recV_len encR_len]
    simp [encR]
set_option maxRecDepth 100000 in
set_option maxHeartbeats 8000000 in
theorem join_any {w : World} {B : Nat} {v : Value} {M : Rns} (hO : w.ownsRow B TRun 3 v M.length (recV encR M)) (hB : B ≤ w.heap.size) (hM : M.length ≤ 1000) (hx : ∀ x ∈ M, x.1 + x.2.1 ≤ 1024) (a b r : Nat) (hab : a + b ≤ 1024) :
    Calls Try.prog 39 #[v, .agg #[.int .i64 a, .int .i64 b, .int .u8 r]] w (JoinP w B v (joinR M (a, b, r))) := by
  obtain ⟨va, vc, rfl, _⟩ := owns_slice hO
  obtain ⟨w1, hw1⟩ : ∃ w1, w.alloc (.cells #[.int .i64 a, .int .i64 b, .int .u8 r] TRun) = w1 := ⟨_, rfl⟩
  have hb1 : Below w.heap.size w w1 := by rw [← hw1]; exact (Below.refl _ _).alloc (Nat.le_refl _) _
  have hs1 : w1.heap.size = w.heap.size + 1 := by rw [← hw1]; simp
  have HR1 := Lib.hid (show RowAt w1 w.heap.size 3 (rnV (a, b, r)) from by rw [← hw1]; exact run_row w (a, b, r))
  have HO1 := Lib.hid (owns_later hO hb1)
  have HON := Lib.hid (show Only (fun k => (Value.slice va M.length vc).ownBlock = some k) w w1 from Only.of_below hb1)
  have hB1 : B ≤ w1.heap.size := by omega
  have HW1 := Lib.hid hw1
  have c0 : w1.cell? ⟨w.heap.size, 0, none⟩ = some (.int .i64 a) := HR1.out.cell 0 (by decide)
  have c1 : w1.cell? ⟨w.heap.size, 1, none⟩ = some (.int .i64 b) := HR1.out.cell 1 (by decide)
  have c2 : w1.cell? ⟨w.heap.size, 2, none⟩ = some (.int .u8 r) := HR1.out.cell 2 (by decide)
  clear hO hb1 hw1
  by_cases hb0 : b = 0
  · subst hb0
    have c1 : w1.cell? ⟨w.heap.size, 1, none⟩ = some (.int .i64 0) := c1
    have HJ := Lib.hid (show joinR M (a, 0, r) = M from if_pos (Or.inl rfl))
    clear hx hab hM
    rw [HJ.out]
    go_enter Try.func39, Try.ntmps39
    go_wp2_with (first | rw [HW1.out] | fail)
    go_ret
    exact ⟨_, rfl, by have h := HO1.out; rw [← HW1.out] at h; exact h, by have h := HON.out; rw [← HW1.out] at h; exact h⟩
  · by_cases hr0 : r = 0
    · subst hr0
      have c2 : w1.cell? ⟨w.heap.size, 2, none⟩ = some (.int .u8 0) := c2
      have hbI : ((b : Int) == 0) = false := by simp; omega
      have HJ := Lib.hid (show joinR M (a, b, 0) = M from if_pos (Or.inr rfl))
      clear hx hab hM
      rw [HJ.out]
      go_enter Try.func39, Try.ntmps39
      go_wp2_with (first | rw [HW1.out] | fail)
      go_ret
      exact ⟨_, rfl, by have h := HO1.out; rw [← HW1.out] at h; exact h, by have h := HON.out; rw [← HW1.out] at h; exact h⟩
    · have hbI : ((b : Int) == 0) = false := by simp; omega
      have hrI : ((r : Int) == 0) = false := by simp; omega
      have hn : ¬ (b = 0 ∨ r = 0) := fun h => h.elim hb0 hr0
      have L0 := Lib.hid (show ∀ U, Kept w1.heap.size w1 U → (loadVar 3 ⟨w.heap.size, 0, none⟩).run Try.prog U = .ok (.int .i64 a) U from fun U hU => run_loadVar_cell (fun _ => by kernel_rfl) ((HR1.out.later hU.below).cell 0 (by decide)))
      have L2 := Lib.hid (show ∀ U, Kept w1.heap.size w1 U → (loadVar 5 ⟨w.heap.size, 2, none⟩).run Try.prog U = .ok (.int .u8 r) U from fun U hU => run_loadVar_cell (fun _ => by kernel_rfl) ((HR1.out.later hU.below).cell 2 (by decide)))
      by_cases hM0 : M.length = 0
      · obtain rfl : M = [] := List.eq_nil_of_length_eq_zero hM0
        have HJ := Lib.hid (show joinR [] (a, b, r) = [] ++ [(a, b, r)] from by unfold joinR; rw [if_neg hn, if_neg (fun h => absurd h.1 (by decide))])
        have hw1 := HW1.out
        clear hx hab hM hn
        go_enter Try.func39, Try.ntmps39
        go_wp2_with (fail)
        refine wp_region_lex (Kept w1.heap.size w1) [(0, false), (1, false), (2, false), (3, false), (4, false), (5, false), (6, false), (8, false), (9, false), (7, true), (10, false), (11, false), (12, false), (13, false), (14, false), (15, false), (16, false), (17, false), (18, false), (19, false), (20, false), (21, false)] (by kernel_rfl) (by kernel_rfl) rfl (by kernel_rfl) ⟨rfl, rfl, rfl, Nat.le_refl _, fun _ _ => rfl⟩ ?_
        intro W0 hK0
        refine lexH_yieldE rfl rfl ?_
        apply Exists.intro
        refine ⟨fun W hW => ?_, ?_⟩
        focus (go_simp; exact rfl)
        simp only [List.getElem_toArray, List.getElem_cons_zero, Act.put, List.setIfInBounds_toArray, List.set_cons_zero, List.set_cons_succ]
        refine lexH_yieldE rfl rfl ?_
        apply Exists.intro
        refine ⟨fun W hW => ?_, ?_⟩
        focus (go_simp; exact rfl)
        simp only [List.getElem_toArray, List.getElem_cons_succ, List.getElem_cons_zero, Act.put, List.setIfInBounds_toArray, List.set_cons_zero, List.set_cons_succ]
        refine lexH_yieldE rfl rfl ?_
        apply Exists.intro
        refine ⟨fun W hW => ?_, ?_⟩
        focus (go_simp; exact rfl)
        simp only [List.getElem_toArray, List.getElem_cons_succ, List.getElem_cons_zero, Act.put, List.setIfInBounds_toArray, List.set_cons_zero, List.set_cons_succ]
        refine lexH_skip rfl rfl ?_
        simp only [List.getElem_toArray, List.getElem_cons_succ, List.getElem_cons_zero, Act.put, List.setIfInBounds_toArray, List.set_cons_zero, List.set_cons_succ]
        refine lexH_skip rfl rfl ?_
        simp only [List.getElem_toArray, List.getElem_cons_succ, List.getElem_cons_zero, Act.put, List.setIfInBounds_toArray, List.set_cons_zero, List.set_cons_succ]
        refine lexH_skip rfl rfl ?_
        simp only [List.getElem_toArray, List.getElem_cons_succ, List.getElem_cons_zero, Act.put, List.setIfInBounds_toArray, List.set_cons_zero, List.set_cons_succ]
        refine lexH_skip rfl rfl ?_
        simp only [List.getElem_toArray, List.getElem_cons_succ, List.getElem_cons_zero, Act.put, List.setIfInBounds_toArray, List.set_cons_zero, List.set_cons_succ]
        refine lexH_skip rfl rfl ?_
        simp only [List.getElem_toArray, List.getElem_cons_succ, List.getElem_cons_zero, Act.put, List.setIfInBounds_toArray, List.set_cons_zero, List.set_cons_succ]
        refine lexH_skip rfl rfl ?_
        simp only [List.getElem_toArray, List.getElem_cons_succ, List.getElem_cons_zero, Act.put, List.setIfInBounds_toArray, List.set_cons_zero, List.set_cons_succ]
        refine lexH_pass rfl rfl hK0 ?_
        simp only [List.getElem_toArray, List.getElem_cons_succ, List.getElem_cons_zero, Act.put, List.setIfInBounds_toArray, List.set_cons_zero, List.set_cons_succ]
        refine lexH_skip rfl rfl ?_
        simp only [List.getElem_toArray, List.getElem_cons_succ, List.getElem_cons_zero, Act.put, List.setIfInBounds_toArray, List.set_cons_zero, List.set_cons_succ]
        refine lexH_yieldE rfl rfl ?_
        apply Exists.intro
        refine ⟨fun W hW => ?_, ?_⟩
        focus (go_simp; exact rfl)
        simp only [List.getElem_toArray, List.getElem_cons_succ, List.getElem_cons_zero, Act.put, List.setIfInBounds_toArray, List.set_cons_zero, List.set_cons_succ]
        refine lexH_yieldE rfl rfl ?_
        apply Exists.intro
        refine ⟨fun W hW => ?_, ?_⟩
        focus (go_simp; exact rfl)
        simp only [List.getElem_toArray, List.getElem_cons_succ, List.getElem_cons_zero, Act.put, List.setIfInBounds_toArray, List.set_cons_zero, List.set_cons_succ]
        refine lexH_skip rfl rfl ?_
        simp only [List.getElem_toArray, List.getElem_cons_succ, List.getElem_cons_zero, Act.put, List.setIfInBounds_toArray, List.set_cons_zero, List.set_cons_succ]
        refine lexH_skip rfl rfl ?_
        simp only [List.getElem_toArray, List.getElem_cons_succ, List.getElem_cons_zero, Act.put, List.setIfInBounds_toArray, List.set_cons_zero, List.set_cons_succ]
        refine lexH_skip rfl rfl ?_
        simp only [List.getElem_toArray, List.getElem_cons_succ, List.getElem_cons_zero, Act.put, List.setIfInBounds_toArray, List.set_cons_zero, List.set_cons_succ]
        refine lexH_skip rfl rfl ?_
        simp only [List.getElem_toArray, List.getElem_cons_succ, List.getElem_cons_zero, Act.put, List.setIfInBounds_toArray, List.set_cons_zero, List.set_cons_succ]
        refine lexH_skip rfl rfl ?_
        simp only [List.getElem_toArray, List.getElem_cons_succ, List.getElem_cons_zero, Act.put, List.setIfInBounds_toArray, List.set_cons_zero, List.set_cons_succ]
        refine lexH_skip rfl rfl ?_
        simp only [List.getElem_toArray, List.getElem_cons_succ, List.getElem_cons_zero, Act.put, List.setIfInBounds_toArray, List.set_cons_zero, List.set_cons_succ]
        refine lexH_skip rfl rfl ?_
        simp only [List.getElem_toArray, List.getElem_cons_succ, List.getElem_cons_zero, Act.put, List.setIfInBounds_toArray, List.set_cons_zero, List.set_cons_succ]
        refine lexH_skip rfl rfl ?_
        simp only [List.getElem_toArray, List.getElem_cons_succ, List.getElem_cons_zero, Act.put, List.setIfInBounds_toArray, List.set_cons_zero, List.set_cons_succ]
        refine lexH_yieldE rfl rfl ?_
        apply Exists.intro
        refine ⟨fun W hW => ?_, ?_⟩
        focus (go_simp; exact rfl)
        simp only [List.getElem_toArray, List.getElem_cons_succ, List.getElem_cons_zero, Act.put, List.setIfInBounds_toArray, List.set_cons_zero, List.set_cons_succ]
        refine lexH_nil ?_
        have KW := hK0
        have hR2 := HR1.out.later KW.below
        have c0 : W0.cell? ⟨w.heap.size, 0, none⟩ = some (.int .i64 a) := hR2.cell 0 (by decide)
        have c1 : W0.cell? ⟨w.heap.size, 1, none⟩ = some (.int .i64 b) := hR2.cell 1 (by decide)
        have c2 : W0.cell? ⟨w.heap.size, 2, none⟩ = some (.int .u8 r) := hR2.cell 2 (by decide)
        have HO2 := Lib.hid (owns_later HO1.out KW.below)
        have HON2 := Lib.hid (HON.out.trans (Only.of_below (KW.below.mono (Nat.le_of_eq (by rfl)))))
        clear hR2
        have hle := Nat.le_trans hB1 KW.below.size
        go_wp2_with (first | (refine wpList_append_run W0 rfl _ _ rfl B _ _ _ _ _ a b r rfl rfl rfl HO2.out hle rfl rfl (by omega) ?_; intro v' w' ho hon) | fail)
        go_ret
        rw [HJ.out]
        exact ⟨_, rfl, ho, HON2.out.trans (hon.mono fun k hk => hk)⟩
      · obtain ⟨m, hm⟩ : ∃ m, M.length = m + 1 := ⟨M.length - 1, by omega⟩
        have HMEM := lastR_mem (M := M) (by omega)
        have hxy := hx _ HMEM
        have HV := Lib.hid (getD_at (L := M) m (by omega))
        have HLA := Lib.hid (show lastR M = M[m]'(by omega) from by rw [lastR, show M.length - 1 = m by omega, getD_at m (by omega)])
        obtain ⟨g, c, hv, hgb, hob, hgl, hcell, hfz⟩ := owns_where HO1.out (by omega)
        simp only [Value.slice.injEq] at hv
        obtain ⟨rfl, _, rfl⟩ := hv
        have hat := recV_at encR_len M m _ (List.getElem?_eq_getElem (by omega))
        rw [← HLA.out] at hat
        obtain ⟨y, hy⟩ : ∃ y, lastR M = y := ⟨_, rfl⟩
        obtain ⟨y1, y2, y3⟩ := y
        rw [hy] at hat hxy
        dsimp only at hxy
        have k0 : w1.cell? ⟨g, m * 3, none⟩ = some (.int .i64 y1) := hcell (m * 3) _ (by omega) (hat 0 _ rfl)
        have k1 : w1.cell? ⟨g, m * 3 + 1, none⟩ = some (.int .i64 y2) := hcell (m * 3 + 1) _ (by omega) (hat 1 _ rfl)
        have k2 : w1.cell? ⟨g, m * 3 + 2, none⟩ = some (.int .u8 y3) := hcell (m * 3 + 2) _ (by omega) (hat 2 _ rfl)
        have z1 := hfz (m * 3 + 1)
        have LY := Lib.hid (show ∀ U, Kept w1.heap.size w1 U → (loadVar 39 ⟨g, m * 3, none⟩).run Try.prog U = .ok (.agg #[.int .i64 y1, .int .i64 y2, .int .u8 y3]) U from fun U hU => by
          exact load_run ((hU.cell hgl).trans k0) ((hU.cell hgl).trans k1) ((hU.cell hgl).trans k2))
        have L3 := Lib.hid (show ∀ U, Kept w1.heap.size w1 U → (loadVar 5 ⟨g, m * 3 + 2, none⟩).run Try.prog U = .ok (.int .u8 y3) U from fun U hU => run_loadVar_cell (fun _ => by kernel_rfl) ((hU.cell hgl).trans k2))
        have HY := Lib.hid hy
        have HK1 := Lib.hid k1
        have HZ1 := Lib.hid z1
        have HMM := Lib.hid hm
        have HWK := Lib.hid (wrap_in ((y2 + b : Nat) : Int) (by omega) (by omega))
        have HE1 := Lib.hid (show ((y2 : Int) + b) = ((y2 + b : Nat) : Int) from by omega)
        have e2 := recV_more M (by omega) b
        rw [hy, hm, show m + 1 - 1 = m from rfl] at e2
        dsimp only at e2
        have HE2 := Lib.hid e2
        clear e2
        clear hat hcell hfz hy k0 k1 k2 z1 HMEM HV HLA hx
        have hw1 := HW1.out
        rw [hm]
        rw [hm] at hM
        have hmlt : (m : Int) < (m : Int) + 1 := by omega
        by_cases h1 : y1 + y2 = a
        · have h1I : ((y1 : Int) + (y2 : Int) == (a : Int)) = true := by simp; omega
          by_cases h3 : y3 = r
          · have h3I : ((y3 : Int) == (r : Int)) = true := by simp; omega
            have HJ := Lib.hid (show joinR M (a, b, r) = M.set (M.length - 1) ((lastR M).1, (lastR M).2.1 + b, (lastR M).2.2) from by unfold joinR; rw [if_neg hn, if_pos ⟨by omega, by rw [HY.out]; exact h1, by rw [HY.out]; exact h3⟩])
            clear hn
            as_aux_lemma =>
              go_enter Try.func39, Try.ntmps39
              go_wp2_with (fail)
              refine wp_region_lex (Kept w1.heap.size w1) [(0, false), (1, false), (2, false), (3, false), (4, false), (5, false), (6, false), (8, false), (9, false), (7, true), (10, false), (11, false), (12, false), (13, false), (14, false), (15, false), (16, false), (17, false), (18, false), (19, false), (20, false), (21, false)] (by kernel_rfl) (by kernel_rfl) rfl (by kernel_rfl) ⟨rfl, rfl, rfl, Nat.le_refl _, fun _ _ => rfl⟩ ?_
              intro W0 hK0
              refine lexH_yieldE rfl rfl ?_
              apply Exists.intro
              refine ⟨fun W hW => ?_, ?_⟩
              focus (go_simp; exact rfl)
              simp only [List.getElem_toArray, List.getElem_cons_zero, Act.put, List.setIfInBounds_toArray, List.set_cons_zero, List.set_cons_succ]
              refine lexH_yieldE rfl rfl ?_
              apply Exists.intro
              refine ⟨fun W hW => ?_, ?_⟩
              focus (go_simp; exact rfl)
              simp only [List.getElem_toArray, List.getElem_cons_succ, List.getElem_cons_zero, Act.put, List.setIfInBounds_toArray, List.set_cons_zero, List.set_cons_succ]
              refine lexH_yieldE rfl rfl ?_
              apply Exists.intro
              refine ⟨fun W hW => ?_, ?_⟩
              focus (go_simp; exact rfl)
              simp only [List.getElem_toArray, List.getElem_cons_succ, List.getElem_cons_zero, Act.put, List.setIfInBounds_toArray, List.set_cons_zero, List.set_cons_succ]
              refine lexH_yieldE rfl rfl ?_
              apply Exists.intro
              refine ⟨fun W hW => ?_, ?_⟩
              focus (go_simp; exact rfl)
              simp only [List.getElem_toArray, List.getElem_cons_succ, List.getElem_cons_zero, Act.put, List.setIfInBounds_toArray, List.set_cons_zero, List.set_cons_succ]
              refine lexH_yieldE rfl rfl ?_
              apply Exists.intro
              refine ⟨fun W hW => ?_, ?_⟩
              focus (go_simp; exact rfl)
              simp only [List.getElem_toArray, List.getElem_cons_succ, List.getElem_cons_zero, Act.put, List.setIfInBounds_toArray, List.set_cons_zero, List.set_cons_succ]
              refine lexH_yieldE rfl rfl ?_
              apply Exists.intro
              refine ⟨fun W hW => ?_, ?_⟩
              focus (go_simp; exact rfl)
              simp only [List.getElem_toArray, List.getElem_cons_succ, List.getElem_cons_zero, Act.put, List.setIfInBounds_toArray, List.set_cons_zero, List.set_cons_succ]
              refine lexH_load rfl rfl _ _ rfl rfl LY.out ?_
              simp only [List.getElem_toArray, List.getElem_cons_succ, List.getElem_cons_zero, Act.put, List.setIfInBounds_toArray, List.set_cons_zero, List.set_cons_succ]
              refine lexH_yieldE rfl rfl ?_
              apply Exists.intro
              refine ⟨fun W hW => ?_, ?_⟩
              focus (go_simp; exact rfl)
              simp only [List.getElem_toArray, List.getElem_cons_succ, List.getElem_cons_zero, Act.put, List.setIfInBounds_toArray, List.set_cons_zero, List.set_cons_succ]
              refine lexH_load rfl rfl _ _ rfl rfl L0.out ?_
              simp only [List.getElem_toArray, List.getElem_cons_succ, List.getElem_cons_zero, Act.put, List.setIfInBounds_toArray, List.set_cons_zero, List.set_cons_succ]
              refine lexH_call 34 #[.agg #[.int .i64 y1, .int .i64 y2, .int .u8 y3]] rfl rfl ?_ ?_
              focus (go_simp; done)
              refine (aend_any _ y1 y2 y3 (by omega)).mono ?_
              rintro e W1 ⟨rfl, hb⟩
              have KW : Kept w1.heap.size w1 W1 := hK0.call (Nat.le_refl _) hb
              clear hb
              refine ⟨_, rfl, KW, ?_⟩
              simp only [List.getElem_toArray, List.getElem_cons_succ, List.getElem_cons_zero, Act.put, List.setIfInBounds_toArray, List.set_cons_zero, List.set_cons_succ]
              refine lexH_yieldE rfl rfl ?_
              apply Exists.intro
              refine ⟨fun W hW => ?_, ?_⟩
              focus (go_simp; exact rfl)
              simp only [List.getElem_toArray, List.getElem_cons_succ, List.getElem_cons_zero, Act.put, List.setIfInBounds_toArray, List.set_cons_zero, List.set_cons_succ]
              refine lexH_yieldE rfl rfl ?_
              apply Exists.intro
              refine ⟨fun W hW => ?_, ?_⟩
              focus (go_simp; exact rfl)
              simp only [List.getElem_toArray, List.getElem_cons_succ, List.getElem_cons_zero, Act.put, List.setIfInBounds_toArray, List.set_cons_zero, List.set_cons_succ]
              refine lexH_yieldE rfl rfl ?_
              apply Exists.intro
              refine ⟨fun W hW => ?_, ?_⟩
              focus (go_simp; exact rfl)
              simp only [List.getElem_toArray, List.getElem_cons_succ, List.getElem_cons_zero, Act.put, List.setIfInBounds_toArray, List.set_cons_zero, List.set_cons_succ]
              refine lexH_yieldE rfl rfl ?_
              apply Exists.intro
              refine ⟨fun W hW => ?_, ?_⟩
              focus (go_simp; exact rfl)
              simp only [List.getElem_toArray, List.getElem_cons_succ, List.getElem_cons_zero, Act.put, List.setIfInBounds_toArray, List.set_cons_zero, List.set_cons_succ]
              refine lexH_yieldE rfl rfl ?_
              apply Exists.intro
              refine ⟨fun W hW => ?_, ?_⟩
              focus (go_simp; exact rfl)
              simp only [List.getElem_toArray, List.getElem_cons_succ, List.getElem_cons_zero, Act.put, List.setIfInBounds_toArray, List.set_cons_zero, List.set_cons_succ]
              refine lexH_yieldE rfl rfl ?_
              apply Exists.intro
              refine ⟨fun W hW => ?_, ?_⟩
              focus (go_simp; exact rfl)
              simp only [List.getElem_toArray, List.getElem_cons_succ, List.getElem_cons_zero, Act.put, List.setIfInBounds_toArray, List.set_cons_zero, List.set_cons_succ]
              refine lexH_yieldE rfl rfl ?_
              apply Exists.intro
              refine ⟨fun W hW => ?_, ?_⟩
              focus (go_simp; exact rfl)
              simp only [List.getElem_toArray, List.getElem_cons_succ, List.getElem_cons_zero, Act.put, List.setIfInBounds_toArray, List.set_cons_zero, List.set_cons_succ]
              refine lexH_load rfl rfl _ _ rfl rfl L3.out ?_
              simp only [List.getElem_toArray, List.getElem_cons_succ, List.getElem_cons_zero, Act.put, List.setIfInBounds_toArray, List.set_cons_zero, List.set_cons_succ]
              refine lexH_yieldE rfl rfl ?_
              apply Exists.intro
              refine ⟨fun W hW => ?_, ?_⟩
              focus (go_simp; exact rfl)
              simp only [List.getElem_toArray, List.getElem_cons_succ, List.getElem_cons_zero, Act.put, List.setIfInBounds_toArray, List.set_cons_zero, List.set_cons_succ]
              refine lexH_load rfl rfl _ _ rfl rfl L2.out ?_
              simp only [List.getElem_toArray, List.getElem_cons_succ, List.getElem_cons_zero, Act.put, List.setIfInBounds_toArray, List.set_cons_zero, List.set_cons_succ]
              refine lexH_yieldE rfl rfl ?_
              apply Exists.intro
              refine ⟨fun W hW => ?_, ?_⟩
              focus (go_simp; exact rfl)
              simp only [List.getElem_toArray, List.getElem_cons_succ, List.getElem_cons_zero, Act.put, List.setIfInBounds_toArray, List.set_cons_zero, List.set_cons_succ]
              refine lexH_yieldE rfl rfl ?_
              apply Exists.intro
              refine ⟨fun W hW => ?_, ?_⟩
              focus (go_simp; exact rfl)
              simp only [List.getElem_toArray, List.getElem_cons_succ, List.getElem_cons_zero, Act.put, List.setIfInBounds_toArray, List.set_cons_zero, List.set_cons_succ]
              refine lexH_nil ?_
              have HB := Lib.hid HON.out
              have L1 := Lib.hid (show ∀ U, Kept W1.heap.size W1 U → (loadVar 3 ⟨g, m * 3 + 1, none⟩).run Try.prog U = .ok (.int .i64 y2) U from fun U hU => run_loadVar_cell (fun _ => by kernel_rfl) ((hU.cell (by have := KW.below.size; omega)).trans ((KW.cell hgl).trans HK1.out)))
              have LB := Lib.hid (show ∀ U, Kept W1.heap.size W1 U → (loadVar 3 ⟨w.heap.size, 1, none⟩).run Try.prog U = .ok (.int .i64 b) U from fun U hU => run_loadVar_cell (fun _ => by kernel_rfl) (((HR1.out.later KW.below).later hU.below).cell 1 (by decide)))
              have HO2 := Lib.hid (owns_later HO1.out KW.below)
              have HON2 := Lib.hid (HON.out.trans (Only.of_below (KW.below.mono (Nat.le_of_eq (by rfl)))))
              rw [HMM.out] at HO2 HON2
              have hwa : wrap64 ((y2 : Int) + b) = (y2 : Int) + b := IntWalk.wrap64_in _ ⟨by omega, by omega⟩
              have hgl1 : g < W1.heap.size := by have := KW.below.size; omega
              have z1 : W1.drew.frozen? ⟨g, m * 3 + 1, none⟩ = false := by
                have h := World.frozen?_of_block (a := ⟨g, m * 3 + 1, none⟩) (KW.below.block g hgl)
                exact h.trans HZ1.out
              have k1 : W1.drew.cell? ⟨g, m * 3 + 1, none⟩ = some (.int .i64 y2) := (KW.cell hgl).trans HK1.out
              clear c0 c1 c2
              go_wp2_with (fail)
              refine wp_region_lexF (Kept W1.heap.size W1) [(0, false), (1, false), (2, false), (3, false), (4, false), (5, false), (6, false), (7, false), (8, false), (9, false)] 10 (by kernel_rfl) (by kernel_rfl) rfl (by kernel_rfl) ⟨rfl, rfl, rfl, Nat.le_refl _, fun _ _ => rfl⟩ ?_
              intro V0 hV0 hKV
              subst hV0
              refine lexH_yieldE rfl rfl ?_
              apply Exists.intro
              refine ⟨fun W hW => ?_, ?_⟩
              focus (go_simp; exact rfl)
              simp only [List.getElem_toArray, List.getElem_cons_zero, Act.put, List.setIfInBounds_toArray, List.set_cons_zero, List.set_cons_succ]
              refine lexH_yieldE rfl rfl ?_
              apply Exists.intro
              refine ⟨fun W hW => ?_, ?_⟩
              focus (go_simp; exact rfl)
              simp only [List.getElem_toArray, List.getElem_cons_succ, List.getElem_cons_zero, Act.put, List.setIfInBounds_toArray, List.set_cons_zero, List.set_cons_succ]
              refine lexH_yieldE rfl rfl ?_
              apply Exists.intro
              refine ⟨fun W hW => ?_, ?_⟩
              focus (go_simp; exact rfl)
              simp only [List.getElem_toArray, List.getElem_cons_succ, List.getElem_cons_zero, Act.put, List.setIfInBounds_toArray, List.set_cons_zero, List.set_cons_succ]
              refine lexH_yieldE rfl rfl ?_
              apply Exists.intro
              refine ⟨fun W hW => ?_, ?_⟩
              focus (go_simp; exact rfl)
              simp only [List.getElem_toArray, List.getElem_cons_succ, List.getElem_cons_zero, Act.put, List.setIfInBounds_toArray, List.set_cons_zero, List.set_cons_succ]
              refine lexH_load rfl rfl _ _ rfl rfl L1.out ?_
              simp only [List.getElem_toArray, List.getElem_cons_succ, List.getElem_cons_zero, Act.put, List.setIfInBounds_toArray, List.set_cons_zero, List.set_cons_succ]
              refine lexH_yieldE rfl rfl ?_
              apply Exists.intro
              refine ⟨fun W hW => ?_, ?_⟩
              focus (go_simp; exact rfl)
              simp only [List.getElem_toArray, List.getElem_cons_succ, List.getElem_cons_zero, Act.put, List.setIfInBounds_toArray, List.set_cons_zero, List.set_cons_succ]
              refine lexH_load rfl rfl _ _ rfl rfl LB.out ?_
              simp only [List.getElem_toArray, List.getElem_cons_succ, List.getElem_cons_zero, Act.put, List.setIfInBounds_toArray, List.set_cons_zero, List.set_cons_succ]
              refine lexH_yieldE rfl rfl ?_
              apply Exists.intro
              refine ⟨fun W hW => ?_, ?_⟩
              focus (go_simp; exact rfl)
              simp only [List.getElem_toArray, List.getElem_cons_succ, List.getElem_cons_zero, Act.put, List.setIfInBounds_toArray, List.set_cons_zero, List.set_cons_succ]
              refine lexH_yieldE rfl rfl ?_
              apply Exists.intro
              refine ⟨fun W hW => ?_, ?_⟩
              focus (go_simp; exact rfl)
              simp only [List.getElem_toArray, List.getElem_cons_succ, List.getElem_cons_zero, Act.put, List.setIfInBounds_toArray, List.set_cons_zero, List.set_cons_succ]
              refine lexH_yieldE rfl rfl ?_
              apply Exists.intro
              refine ⟨fun W hW => ?_, ?_⟩
              focus (go_simp; exact rfl)
              simp only [List.getElem_toArray, List.getElem_cons_succ, List.getElem_cons_zero, Act.put, List.setIfInBounds_toArray, List.set_cons_zero, List.set_cons_succ]
              refine lexH_last rfl rfl ?_
              unfold Oper.wp
              go_simp
              go_wp2_with (fail)
              go_ret
              rw [HJ.out]
              have e1 := HE1.out
              have hk := HWK.out
              have HY2 := Lib.hid (show (W1.drewN 1).setCell ⟨g, m * 3 + 1, none⟩ (.int .i64 (IntKind.i64.wrap ((y2 : Int) + b))) = (W1.drewN 1).setCell ⟨g, m * 3 + 1, none⟩ (.int .i64 ((y2 + b : Nat) : Int)) from by rw [e1, hk])
              have HON3 := Lib.hid (HON2.out.trans ((Only.drewN _ W1 1).trans (Only.setCell _ ⟨g, m * 3 + 1, none⟩ hob (.int .i64 ((y2 + b : Nat) : Int)))))
              have HO3 := Lib.hid (owns_set (owns_later HO2.out (below_drewN (Below.refl _ W1) 1)) (m * 3 + 1) (.int .i64 ((y2 + b : Nat) : Int)))
              have e2 := HE2.out
              rw [e2] at HO3
              refine ⟨_, rfl, ?_, ?_⟩
              · rw [List.length_set, HY.out, HMM.out]
                refine Eq.mp ?_ HO3.out
                rw [← HY2.out]
                rfl
              · refine Eq.mp ?_ HON3.out
                rw [← HY2.out]
                rfl
          · have h3I : ((y3 : Int) == (r : Int)) = false := by simp; omega
            have HJ := Lib.hid (show joinR M (a, b, r) = M ++ [(a, b, r)] from by unfold joinR; rw [if_neg hn, HY.out, if_neg (fun h => h3 h.2.2)])
            clear hn h3
            as_aux_lemma =>
              go_enter Try.func39, Try.ntmps39
              go_wp2_with (fail)
              refine wp_region_lex (Kept w1.heap.size w1) [(0, false), (1, false), (2, false), (3, false), (4, false), (5, false), (6, false), (8, false), (9, false), (7, true), (10, false), (11, false), (12, false), (13, false), (14, false), (15, false), (16, false), (17, false), (18, false), (19, false), (20, false), (21, false)] (by kernel_rfl) (by kernel_rfl) rfl (by kernel_rfl) ⟨rfl, rfl, rfl, Nat.le_refl _, fun _ _ => rfl⟩ ?_
              intro W0 hK0
              refine lexH_yieldE rfl rfl ?_
              apply Exists.intro
              refine ⟨fun W hW => ?_, ?_⟩
              focus (go_simp; exact rfl)
              simp only [List.getElem_toArray, List.getElem_cons_zero, Act.put, List.setIfInBounds_toArray, List.set_cons_zero, List.set_cons_succ]
              refine lexH_yieldE rfl rfl ?_
              apply Exists.intro
              refine ⟨fun W hW => ?_, ?_⟩
              focus (go_simp; exact rfl)
              simp only [List.getElem_toArray, List.getElem_cons_succ, List.getElem_cons_zero, Act.put, List.setIfInBounds_toArray, List.set_cons_zero, List.set_cons_succ]
              refine lexH_yieldE rfl rfl ?_
              apply Exists.intro
              refine ⟨fun W hW => ?_, ?_⟩
              focus (go_simp; exact rfl)
              simp only [List.getElem_toArray, List.getElem_cons_succ, List.getElem_cons_zero, Act.put, List.setIfInBounds_toArray, List.set_cons_zero, List.set_cons_succ]
              refine lexH_yieldE rfl rfl ?_
              apply Exists.intro
              refine ⟨fun W hW => ?_, ?_⟩
              focus (go_simp; exact rfl)
              simp only [List.getElem_toArray, List.getElem_cons_succ, List.getElem_cons_zero, Act.put, List.setIfInBounds_toArray, List.set_cons_zero, List.set_cons_succ]
              refine lexH_yieldE rfl rfl ?_
              apply Exists.intro
              refine ⟨fun W hW => ?_, ?_⟩
              focus (go_simp; exact rfl)
              simp only [List.getElem_toArray, List.getElem_cons_succ, List.getElem_cons_zero, Act.put, List.setIfInBounds_toArray, List.set_cons_zero, List.set_cons_succ]
              refine lexH_yieldE rfl rfl ?_
              apply Exists.intro
              refine ⟨fun W hW => ?_, ?_⟩
              focus (go_simp; exact rfl)
              simp only [List.getElem_toArray, List.getElem_cons_succ, List.getElem_cons_zero, Act.put, List.setIfInBounds_toArray, List.set_cons_zero, List.set_cons_succ]
              refine lexH_load rfl rfl _ _ rfl rfl LY.out ?_
              simp only [List.getElem_toArray, List.getElem_cons_succ, List.getElem_cons_zero, Act.put, List.setIfInBounds_toArray, List.set_cons_zero, List.set_cons_succ]
              refine lexH_yieldE rfl rfl ?_
              apply Exists.intro
              refine ⟨fun W hW => ?_, ?_⟩
              focus (go_simp; exact rfl)
              simp only [List.getElem_toArray, List.getElem_cons_succ, List.getElem_cons_zero, Act.put, List.setIfInBounds_toArray, List.set_cons_zero, List.set_cons_succ]
              refine lexH_load rfl rfl _ _ rfl rfl L0.out ?_
              simp only [List.getElem_toArray, List.getElem_cons_succ, List.getElem_cons_zero, Act.put, List.setIfInBounds_toArray, List.set_cons_zero, List.set_cons_succ]
              refine lexH_call 34 #[.agg #[.int .i64 y1, .int .i64 y2, .int .u8 y3]] rfl rfl ?_ ?_
              focus (go_simp; done)
              refine (aend_any _ y1 y2 y3 (by omega)).mono ?_
              rintro e W1 ⟨rfl, hb⟩
              have KW : Kept w1.heap.size w1 W1 := hK0.call (Nat.le_refl _) hb
              clear hb
              refine ⟨_, rfl, KW, ?_⟩
              simp only [List.getElem_toArray, List.getElem_cons_succ, List.getElem_cons_zero, Act.put, List.setIfInBounds_toArray, List.set_cons_zero, List.set_cons_succ]
              refine lexH_yieldE rfl rfl ?_
              apply Exists.intro
              refine ⟨fun W hW => ?_, ?_⟩
              focus (go_simp; exact rfl)
              simp only [List.getElem_toArray, List.getElem_cons_succ, List.getElem_cons_zero, Act.put, List.setIfInBounds_toArray, List.set_cons_zero, List.set_cons_succ]
              refine lexH_yieldE rfl rfl ?_
              apply Exists.intro
              refine ⟨fun W hW => ?_, ?_⟩
              focus (go_simp; exact rfl)
              simp only [List.getElem_toArray, List.getElem_cons_succ, List.getElem_cons_zero, Act.put, List.setIfInBounds_toArray, List.set_cons_zero, List.set_cons_succ]
              refine lexH_yieldE rfl rfl ?_
              apply Exists.intro
              refine ⟨fun W hW => ?_, ?_⟩
              focus (go_simp; exact rfl)
              simp only [List.getElem_toArray, List.getElem_cons_succ, List.getElem_cons_zero, Act.put, List.setIfInBounds_toArray, List.set_cons_zero, List.set_cons_succ]
              refine lexH_yieldE rfl rfl ?_
              apply Exists.intro
              refine ⟨fun W hW => ?_, ?_⟩
              focus (go_simp; exact rfl)
              simp only [List.getElem_toArray, List.getElem_cons_succ, List.getElem_cons_zero, Act.put, List.setIfInBounds_toArray, List.set_cons_zero, List.set_cons_succ]
              refine lexH_yieldE rfl rfl ?_
              apply Exists.intro
              refine ⟨fun W hW => ?_, ?_⟩
              focus (go_simp; exact rfl)
              simp only [List.getElem_toArray, List.getElem_cons_succ, List.getElem_cons_zero, Act.put, List.setIfInBounds_toArray, List.set_cons_zero, List.set_cons_succ]
              refine lexH_yieldE rfl rfl ?_
              apply Exists.intro
              refine ⟨fun W hW => ?_, ?_⟩
              focus (go_simp; exact rfl)
              simp only [List.getElem_toArray, List.getElem_cons_succ, List.getElem_cons_zero, Act.put, List.setIfInBounds_toArray, List.set_cons_zero, List.set_cons_succ]
              refine lexH_yieldE rfl rfl ?_
              apply Exists.intro
              refine ⟨fun W hW => ?_, ?_⟩
              focus (go_simp; exact rfl)
              simp only [List.getElem_toArray, List.getElem_cons_succ, List.getElem_cons_zero, Act.put, List.setIfInBounds_toArray, List.set_cons_zero, List.set_cons_succ]
              refine lexH_load rfl rfl _ _ rfl rfl L3.out ?_
              simp only [List.getElem_toArray, List.getElem_cons_succ, List.getElem_cons_zero, Act.put, List.setIfInBounds_toArray, List.set_cons_zero, List.set_cons_succ]
              refine lexH_yieldE rfl rfl ?_
              apply Exists.intro
              refine ⟨fun W hW => ?_, ?_⟩
              focus (go_simp; exact rfl)
              simp only [List.getElem_toArray, List.getElem_cons_succ, List.getElem_cons_zero, Act.put, List.setIfInBounds_toArray, List.set_cons_zero, List.set_cons_succ]
              refine lexH_load rfl rfl _ _ rfl rfl L2.out ?_
              simp only [List.getElem_toArray, List.getElem_cons_succ, List.getElem_cons_zero, Act.put, List.setIfInBounds_toArray, List.set_cons_zero, List.set_cons_succ]
              refine lexH_yieldE rfl rfl ?_
              apply Exists.intro
              refine ⟨fun W hW => ?_, ?_⟩
              focus (go_simp; exact rfl)
              simp only [List.getElem_toArray, List.getElem_cons_succ, List.getElem_cons_zero, Act.put, List.setIfInBounds_toArray, List.set_cons_zero, List.set_cons_succ]
              refine lexH_yieldE rfl rfl ?_
              apply Exists.intro
              refine ⟨fun W hW => ?_, ?_⟩
              focus (go_simp; exact rfl)
              simp only [List.getElem_toArray, List.getElem_cons_succ, List.getElem_cons_zero, Act.put, List.setIfInBounds_toArray, List.set_cons_zero, List.set_cons_succ]
              refine lexH_nil ?_
              have hR2 := HR1.out.later KW.below
              have c0 : W1.cell? ⟨w.heap.size, 0, none⟩ = some (.int .i64 a) := hR2.cell 0 (by decide)
              have c1 : W1.cell? ⟨w.heap.size, 1, none⟩ = some (.int .i64 b) := hR2.cell 1 (by decide)
              have c2 : W1.cell? ⟨w.heap.size, 2, none⟩ = some (.int .u8 r) := hR2.cell 2 (by decide)
              have HO2 := Lib.hid (show W1.ownsRow B TRun 3 (.slice (some ⟨g, 0, none⟩) (m + 1) vc) M.length (recV encR M) from by rw [← HMM.out]; exact owns_later HO1.out KW.below)
              have HON2 := Lib.hid (HON.out.trans (Only.of_below (KW.below.mono (Nat.le_of_eq (by rfl)))))
              clear hR2
              have hle := Nat.le_trans hB1 KW.below.size
              go_wp2_with (first | (refine wpList_append_run W1 rfl _ _ rfl B _ _ _ _ _ a b r rfl rfl rfl HO2.out hle rfl rfl (by omega) ?_; intro v' w' ho hon) | fail)
              go_ret
              rw [HJ.out]
              rw [HMM.out] at HON2
              exact ⟨_, rfl, ho, HON2.out.trans (hon.mono fun k hk => hk)⟩
        · have h1I : ((y1 : Int) + (y2 : Int) == (a : Int)) = false := by simp; omega
          have HJ := Lib.hid (show joinR M (a, b, r) = M ++ [(a, b, r)] from by unfold joinR; rw [if_neg hn, HY.out, if_neg (fun h => h1 h.2.1)])
          clear h1 hn
          as_aux_lemma =>
            go_enter Try.func39, Try.ntmps39
            go_wp2_with (fail)
            refine wp_region_lex (Kept w1.heap.size w1) [(0, false), (1, false), (2, false), (3, false), (4, false), (5, false), (6, false), (8, false), (9, false), (7, true), (10, false), (11, false), (12, false), (13, false), (14, false), (15, false), (16, false), (17, false), (18, false), (19, false), (20, false), (21, false)] (by kernel_rfl) (by kernel_rfl) rfl (by kernel_rfl) ⟨rfl, rfl, rfl, Nat.le_refl _, fun _ _ => rfl⟩ ?_
            intro W0 hK0
            refine lexH_yieldE rfl rfl ?_
            apply Exists.intro
            refine ⟨fun W hW => ?_, ?_⟩
            focus (go_simp; exact rfl)
            simp only [List.getElem_toArray, List.getElem_cons_zero, Act.put, List.setIfInBounds_toArray, List.set_cons_zero, List.set_cons_succ]
            refine lexH_yieldE rfl rfl ?_
            apply Exists.intro
            refine ⟨fun W hW => ?_, ?_⟩
            focus (go_simp; exact rfl)
            simp only [List.getElem_toArray, List.getElem_cons_succ, List.getElem_cons_zero, Act.put, List.setIfInBounds_toArray, List.set_cons_zero, List.set_cons_succ]
            refine lexH_yieldE rfl rfl ?_
            apply Exists.intro
            refine ⟨fun W hW => ?_, ?_⟩
            focus (go_simp; exact rfl)
            simp only [List.getElem_toArray, List.getElem_cons_succ, List.getElem_cons_zero, Act.put, List.setIfInBounds_toArray, List.set_cons_zero, List.set_cons_succ]
            refine lexH_yieldE rfl rfl ?_
            apply Exists.intro
            refine ⟨fun W hW => ?_, ?_⟩
            focus (go_simp; exact rfl)
            simp only [List.getElem_toArray, List.getElem_cons_succ, List.getElem_cons_zero, Act.put, List.setIfInBounds_toArray, List.set_cons_zero, List.set_cons_succ]
            refine lexH_yieldE rfl rfl ?_
            apply Exists.intro
            refine ⟨fun W hW => ?_, ?_⟩
            focus (go_simp; exact rfl)
            simp only [List.getElem_toArray, List.getElem_cons_succ, List.getElem_cons_zero, Act.put, List.setIfInBounds_toArray, List.set_cons_zero, List.set_cons_succ]
            refine lexH_yieldE rfl rfl ?_
            apply Exists.intro
            refine ⟨fun W hW => ?_, ?_⟩
            focus (go_simp; exact rfl)
            simp only [List.getElem_toArray, List.getElem_cons_succ, List.getElem_cons_zero, Act.put, List.setIfInBounds_toArray, List.set_cons_zero, List.set_cons_succ]
            refine lexH_load rfl rfl _ _ rfl rfl LY.out ?_
            simp only [List.getElem_toArray, List.getElem_cons_succ, List.getElem_cons_zero, Act.put, List.setIfInBounds_toArray, List.set_cons_zero, List.set_cons_succ]
            refine lexH_yieldE rfl rfl ?_
            apply Exists.intro
            refine ⟨fun W hW => ?_, ?_⟩
            focus (go_simp; exact rfl)
            simp only [List.getElem_toArray, List.getElem_cons_succ, List.getElem_cons_zero, Act.put, List.setIfInBounds_toArray, List.set_cons_zero, List.set_cons_succ]
            refine lexH_load rfl rfl _ _ rfl rfl L0.out ?_
            simp only [List.getElem_toArray, List.getElem_cons_succ, List.getElem_cons_zero, Act.put, List.setIfInBounds_toArray, List.set_cons_zero, List.set_cons_succ]
            refine lexH_call 34 #[.agg #[.int .i64 y1, .int .i64 y2, .int .u8 y3]] rfl rfl ?_ ?_
            focus (go_simp; done)
            refine (aend_any _ y1 y2 y3 (by omega)).mono ?_
            rintro e W1 ⟨rfl, hb⟩
            have KW : Kept w1.heap.size w1 W1 := hK0.call (Nat.le_refl _) hb
            clear hb
            refine ⟨_, rfl, KW, ?_⟩
            simp only [List.getElem_toArray, List.getElem_cons_succ, List.getElem_cons_zero, Act.put, List.setIfInBounds_toArray, List.set_cons_zero, List.set_cons_succ]
            refine lexH_yieldE rfl rfl ?_
            apply Exists.intro
            refine ⟨fun W hW => ?_, ?_⟩
            focus (go_simp; exact rfl)
            simp only [List.getElem_toArray, List.getElem_cons_succ, List.getElem_cons_zero, Act.put, List.setIfInBounds_toArray, List.set_cons_zero, List.set_cons_succ]
            refine lexH_yieldE rfl rfl ?_
            apply Exists.intro
            refine ⟨fun W hW => ?_, ?_⟩
            focus (go_simp; exact rfl)
            simp only [List.getElem_toArray, List.getElem_cons_succ, List.getElem_cons_zero, Act.put, List.setIfInBounds_toArray, List.set_cons_zero, List.set_cons_succ]
            refine lexH_yieldE rfl rfl ?_
            apply Exists.intro
            refine ⟨fun W hW => ?_, ?_⟩
            focus (go_simp; exact rfl)
            simp only [List.getElem_toArray, List.getElem_cons_succ, List.getElem_cons_zero, Act.put, List.setIfInBounds_toArray, List.set_cons_zero, List.set_cons_succ]
            refine lexH_skip rfl rfl ?_
            simp only [List.getElem_toArray, List.getElem_cons_succ, List.getElem_cons_zero, Act.put, List.setIfInBounds_toArray, List.set_cons_zero, List.set_cons_succ]
            refine lexH_skip rfl rfl ?_
            simp only [List.getElem_toArray, List.getElem_cons_succ, List.getElem_cons_zero, Act.put, List.setIfInBounds_toArray, List.set_cons_zero, List.set_cons_succ]
            refine lexH_skip rfl rfl ?_
            simp only [List.getElem_toArray, List.getElem_cons_succ, List.getElem_cons_zero, Act.put, List.setIfInBounds_toArray, List.set_cons_zero, List.set_cons_succ]
            refine lexH_skip rfl rfl ?_
            simp only [List.getElem_toArray, List.getElem_cons_succ, List.getElem_cons_zero, Act.put, List.setIfInBounds_toArray, List.set_cons_zero, List.set_cons_succ]
            refine lexH_skip rfl rfl ?_
            simp only [List.getElem_toArray, List.getElem_cons_succ, List.getElem_cons_zero, Act.put, List.setIfInBounds_toArray, List.set_cons_zero, List.set_cons_succ]
            refine lexH_skip rfl rfl ?_
            simp only [List.getElem_toArray, List.getElem_cons_succ, List.getElem_cons_zero, Act.put, List.setIfInBounds_toArray, List.set_cons_zero, List.set_cons_succ]
            refine lexH_skip rfl rfl ?_
            simp only [List.getElem_toArray, List.getElem_cons_succ, List.getElem_cons_zero, Act.put, List.setIfInBounds_toArray, List.set_cons_zero, List.set_cons_succ]
            refine lexH_skip rfl rfl ?_
            simp only [List.getElem_toArray, List.getElem_cons_succ, List.getElem_cons_zero, Act.put, List.setIfInBounds_toArray, List.set_cons_zero, List.set_cons_succ]
            refine lexH_yieldE rfl rfl ?_
            apply Exists.intro
            refine ⟨fun W hW => ?_, ?_⟩
            focus (go_simp; exact rfl)
            simp only [List.getElem_toArray, List.getElem_cons_succ, List.getElem_cons_zero, Act.put, List.setIfInBounds_toArray, List.set_cons_zero, List.set_cons_succ]
            refine lexH_nil ?_
            have hR2 := HR1.out.later KW.below
            have c0 : W1.cell? ⟨w.heap.size, 0, none⟩ = some (.int .i64 a) := hR2.cell 0 (by decide)
            have c1 : W1.cell? ⟨w.heap.size, 1, none⟩ = some (.int .i64 b) := hR2.cell 1 (by decide)
            have c2 : W1.cell? ⟨w.heap.size, 2, none⟩ = some (.int .u8 r) := hR2.cell 2 (by decide)
            have HO2 := Lib.hid (show W1.ownsRow B TRun 3 (.slice (some ⟨g, 0, none⟩) (m + 1) vc) M.length (recV encR M) from by rw [← HMM.out]; exact owns_later HO1.out KW.below)
            have HON2 := Lib.hid (HON.out.trans (Only.of_below (KW.below.mono (Nat.le_of_eq (by rfl)))))
            clear hR2
            have hle := Nat.le_trans hB1 KW.below.size
            go_wp2_with (first | (refine wpList_append_run W1 rfl _ _ rfl B _ _ _ _ _ a b r rfl rfl rfl HO2.out hle rfl rfl (by omega) ?_; intro v' w' ho hon) | fail)
            go_ret
            rw [HJ.out]
            rw [HMM.out] at HON2
            exact ⟨_, rfl, ho, HON2.out.trans (hon.mono fun k hk => hk)⟩
end Go.Proofs.Ythnkbipdlepbaaa
