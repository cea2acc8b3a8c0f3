/-
  areas, the document's: Runs.
-/
import Derived.Test.YthnkbipdlepbaaaArRef
namespace Go.Proofs.Ythnkbipdlepbaaa
open Go.RowKit Go
/-- Runs are told, in a row of their own. -/
def RunsP (w : World) (L : Rns) (e : Ending) (w' : World) : Prop := ∃ v, e = .returned v ∧ w'.ownsRow w.heap.size TRun 3 v L.length (recV encR L) ∧ Below w.heap.size w w'
section
variable {w : World} {rb : Nat} {f : Nat → Nat}
set_option maxRecDepth 100000 in
set_option maxHeartbeats 4000000 in
theorem rruns_any (R : RefR w rb f) : Calls Try.prog 35 #[.pointer (some ⟨rb, 0, none⟩)] w (RunsP w (runsTo f 1024)) := by
  obtain ⟨i0, hi, hz0, hz1, hz2⟩ := info_parts infoRun
  have HR := Lib.hid R
  clear R
  go_enter Try.func35, Try.ntmps35
  go_wp2_with (fail)
  go_loopw [3, 4] (fun v i wr => ∃ k : Nat, k ≤ 1024 ∧ i = .int .i64 k ∧ Hid (wr.ownsRow w.heap.size TRun 3 v (runsTo f k).length (recV encR (runsTo f k))) ∧ Hid (Below w.heap.size w wr)) (fun _ i _ => 1024 - (intOf i).toNat)
  case atStart => exact ⟨0, by omega, rfl, World.ownsRow_nil _ _ _ _, Below.refl _ _⟩
  case round =>
    obtain ⟨k, hk, rfl, HO, HB⟩ := hrel
    by_cases hlt : k < 1024
    · have hltI : (k : Int) < 1024 := by omega
      have c0 := (HR.out.later HB.out).cell k hlt
      unfold riV at c0
      have HK := Lib.hid (show runsTo f (k + 1) = if f k = 0 then runsTo f k else if 0 < k ∧ f (k - 1) = f k then bump (runsTo f k) else runsTo f k ++ [(k, 1, f k)] from rfl)
      by_cases h0 : f k = 0
      · rw [h0] at c0
        have HE := Lib.hid (HK.out.trans (if_pos h0))
        clear h0
        go_wp2_with (fail)
        go_roundw
        case rel => exact ⟨k + 1, by omega, by first | rfl | go_num, by rw [HE.out]; exact HO, HB⟩
        case measure => first | (simp [intOf]; omega) | simp [intOf]
      · have hx0 : (((f k : Nat) : Int) == 0) = false := by simp; omega
        cases k with
        | zero =>
          have HE := Lib.hid ((HK.out.trans (if_neg h0)).trans (if_neg (fun h => absurd h.1 (Nat.lt_irrefl _))))
          clear h0 HK
          go_wp2_with (fail)
          go_quiet (fail)
          have HOQ := Lib.hid (owns_later HO.out (below_drewN (Below.refl wr.heap.size wr) nq))
          have HBQ := Lib.hid (below_drewN HB.out nq)
          have CQ := Lib.hid (show (wr.drewN nq).cell? ⟨rb, 0, none⟩ = some (.int .u8 (f (0))) from c0)
          clear HO HB c0
          generalize wr.drewN nq = wq at *
          have c0 := CQ.out
          go_wp2_with (first | (refine wpList_append_run wq rfl _ _ rfl w.heap.size _ _ _ _ _ 0 1 (f (0)) (by omega) rfl rfl HOQ.out HBQ.out.size rfl rfl (by have := runs_len f (0); omega) ?_; intro v' w' ho hon) | fail)
          have HO2 := Lib.hid ho
          have HB2 := Lib.hid (hon.below HBQ.out HBQ.out.size (fun q hq => (HOQ.out.lt q hq).1))
          clear ho hon
          go_roundw
          case rel => exact ⟨0 + 1, by omega, by first | rfl | go_num, by rw [HE.out]; exact HO2, HB2⟩
          case measure => first | (simp [intOf]; omega) | simp [intOf]
        | succ j =>
          have c1 := (HR.out.later HB.out).cell j (by omega)
          unfold riV at c1
          by_cases h1 : f j = f (j + 1)
          · have HE := Lib.hid ((HK.out.trans (if_neg h0)).trans (if_pos ⟨by omega, by simpa using h1⟩))
            have HL := Lib.hid (show 0 < (runsTo f (j + 1)).length from by
              obtain ⟨M, x, e, _⟩ := (runs_desc f (j + 1)).last (by omega) (by simpa [h1] using h0)
              rw [e]; simp)
            rw [h1] at c1
            clear HK h1 h0
            go_wp2_with (fail)
            go_quiet (fail)
            have HOQ := Lib.hid (owns_later HO.out (below_drewN (Below.refl wr.heap.size wr) nq))
            have HBQ := Lib.hid (below_drewN HB.out nq)
            have CQ := Lib.hid (show (wr.drewN nq).cell? ⟨rb, j + 1, none⟩ = some (.int .u8 (f (j + 1))) from c0)
            clear HO HB c0 c1
            generalize wr.drewN nq = wq at *
            have c0 := CQ.out
            obtain ⟨m, hm⟩ : ∃ m, (runsTo f (j + 1)).length = m + 1 := ⟨(runsTo f (j + 1)).length - 1, by have := HL.out; omega⟩
            obtain ⟨g, c, rfl, hgb, hob, hgl, hcell, hfz⟩ := owns_where HOQ.out HL.out
            have hmem : (runsTo f (j + 1)).getD m (0, 0, 0) ∈ runsTo f (j + 1) := by
              rw [List.getD_eq_getElem?_getD, List.getElem?_eq_getElem (by omega)]
              exact List.getElem_mem _
            have hx := (runs_desc f (j + 1)).pos _ hmem
            have d1 := hcell (m * 3 + 1) (.int .i64 ((runsTo f (j + 1)).getD m (0, 0, 0)).2.1) (by omega) (recV_at encR_len _ m _ (by rw [List.getD_eq_getElem?_getD, List.getElem?_eq_getElem (by omega)]; rfl) 1 _ rfl)
            have z1 := hfz (m * 3 + 1)
            have HO2 := Lib.hid (show (wq.setCell ⟨g, m * 3 + 1, none⟩ (.int .i64 ((((runsTo f (j + 1)).getD m (0, 0, 0)).2.1 + 1 : Nat) : Int))).ownsRow w.heap.size TRun 3 (.slice (some ⟨g, 0, none⟩) (bump (runsTo f (j + 1))).length c) (bump (runsTo f (j + 1))).length (recV encR (bump (runsTo f (j + 1)))) from by
              rw [bump_len, ← recV_bump _ HL.out, show (runsTo f (j + 1)).length - 1 = m by omega]
              exact owns_set HOQ.out _ _)
            have HB2 := Lib.hid (HBQ.out.setCell (p := ⟨g, m * 3 + 1, none⟩) hgb (.int .i64 ((((runsTo f (j + 1)).getD m (0, 0, 0)).2.1 + 1 : Nat) : Int)))
            have hmb : m ≤ 1024 := by have := runs_len f (j + 1); omega
            have hxs : (((runsTo f (j + 1)).getD m (0, 0, 0)).2.1 : Int) ≤ 1024 := by omega
            rw [bump_len, hm] at HO2
            rw [hm]
            clear hx hmem hfz hcell hgl hob hgb HOQ CQ c0 HL
            generalize ((runsTo f (j + 1)).getD m (0, 0, 0)).2.1 = X at *
            rw [show ((X + 1 : Nat) : Int) = (X : Int) + 1 by omega] at HO2 HB2
            go_wp2_with (fail)
            go_roundw
            case rel => exact ⟨j + 1 + 1, by omega, by first | rfl | go_num, by rw [HE.out, bump_len, hm]; exact HO2, HB2⟩
            case measure => first | (simp [intOf]; omega) | simp [intOf]
          · have HE := Lib.hid ((HK.out.trans (if_neg h0)).trans (if_neg (fun h => h1 (by simpa using h.2))))
            have h1b : (((f j : Nat) : Int) == ((f (j + 1) : Nat) : Int)) = false := by simp; omega
            clear h1 h0 HK
            go_wp2_with (fail)
            go_quiet (fail)
            have HOQ := Lib.hid (owns_later HO.out (below_drewN (Below.refl wr.heap.size wr) nq))
            have HBQ := Lib.hid (below_drewN HB.out nq)
            have CQ := Lib.hid (show (wr.drewN nq).cell? ⟨rb, j + 1, none⟩ = some (.int .u8 (f (j + 1))) from c0)
            clear HO HB c0 c1
            generalize wr.drewN nq = wq at *
            have c0 := CQ.out
            go_wp2_with (first | (refine wpList_append_run wq rfl _ _ rfl w.heap.size _ _ _ _ _ (j + 1) 1 (f (j + 1)) (by omega) rfl rfl HOQ.out HBQ.out.size rfl rfl (by have := runs_len f (j + 1); omega) ?_; intro v' w' ho hon) | fail)
            have HO2 := Lib.hid ho
            have HB2 := Lib.hid (hon.below HBQ.out HBQ.out.size (fun q hq => (HOQ.out.lt q hq).1))
            clear ho hon
            go_roundw
            case rel => exact ⟨j + 1 + 1, by omega, by first | rfl | go_num, by rw [HE.out]; exact HO2, HB2⟩
            case measure => first | (simp [intOf]; omega) | simp [intOf]
    · obtain rfl : k = 1024 := by omega
      go_wp2_with (fail)
      go_ret
      exact ⟨_, rfl, HO.out, HB.out⟩
end
end Go.Proofs.Ythnkbipdlepbaaa
