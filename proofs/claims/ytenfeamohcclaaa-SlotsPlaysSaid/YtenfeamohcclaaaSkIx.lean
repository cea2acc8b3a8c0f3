/-
  slots: slices.Index of the landed row: the least free slot.
-/
import Derived.Test.YtenfeamohcclaaaSkAt
namespace Go.Proofs.Ytenfeamohcclaaa
open Go.RowKit Go.Shelf Go
attribute [local go_sem] Oper.semAt_some

/-- The number that Index tells. -/
def ixV (f : Nat → Ownr) (N : Nat) : Int := match leastF f N with
  | some i => (i : Int)
  | none => -1
theorem ixV_some {f : Nat → Ownr} {N i : Nat} (h : leastF f N = some i) : ixV f N = (i : Int) := by unfold ixV; rw [h]
theorem ixV_none {f : Nat → Ownr} {N : Nat} (h : leastF f N = none) : ixV f N = -1 := by unfold ixV; rw [h]
def IxP (w : World) (f : Nat → Ownr) (N : Nat) (e : Ending) (w' : World) : Prop := e = .returned (.int .i64 (ixV f N)) ∧ Below w.heap.size w w'
theorem own_at {w : World} {a : Option Addr} {c N : Nat} {f : Nat → Ownr} (ow : w.ownsRow 0 TOw 2 (.slice a N c) N (owL f N)) {i : Nat} (hi : i < N) {y1 y2 : Nat} (hy : f i = (y1, y2)) :
    ∃ g, a = some ⟨g, 0, none⟩ ∧ w.cell? ⟨g, i * 2, none⟩ = some (.int .i64 y1) ∧ w.cell? ⟨g, i * 2 + 1, none⟩ = some (.int .i64 y2) := by
  obtain ⟨g, c2, e, _, _, _, hc, hz⟩ := owns_where ow (by omega)
  have h0 := hc (i * 2) _ (by omega) (owL_at (f := f) (N := N) (j := i * 2) (by omega))
  have h1 := hc (i * 2 + 1) _ (by omega) (owL_at (f := f) (N := N) (j := i * 2 + 1) (by omega))
  rw [owV, if_pos (by omega), show i * 2 / 2 = i by omega, hy] at h0
  rw [owV, if_neg (by omega), show (i * 2 + 1) / 2 = i by omega, hy] at h1
  simp only [Value.slice.injEq] at e
  exact ⟨g, e.1, h0, h1⟩
set_option maxRecDepth 100000 in
set_option maxHeartbeats 4000000 in
theorem index_sk {w : World} {v : Value} {N : Nat} {f : Nat → Ownr} (ow : w.ownsRow 0 TOw 2 v N (owL f N)) (I : SlI f N) :
    Calls Try.prog 23 #[v, .agg #[.int .i64 0, .int .i64 0]] w (IxP w f N) := by
  have HO := Lib.hid ow
  have HI := Lib.hid I
  have hN := I.le
  obtain ⟨a, c, rfl, _⟩ := owns_slice ow
  clear ow I
  have HB := Lib.hid ((Below.refl w.heap.size w).alloc (Nat.le_refl _) (.cells #[.int .i64 0, .int .i64 0] 58))
  have HB0 := Lib.hid (show (w.alloc (.cells #[.int .i64 0, .int .i64 0] 58)).cell? ⟨w.heap.size, 0, none⟩ = some (.int .i64 0) from by simp [go_sem])
  have HB1 := Lib.hid (show (w.alloc (.cells #[.int .i64 0, .int .i64 0] 58)).cell? ⟨w.heap.size, 1, none⟩ = some (.int .i64 0) from by simp [go_sem])
  go_enter Try.func23, Try.ntmps23
  go_wp2_with (fail)
  generalize w.alloc (.cells #[.int .i64 0, .int .i64 0] 58) = w1 at *
  go_loopw [8] (fun iv wr => ∃ k : Nat, iv = .int .i64 k ∧ k ≤ N ∧ Hid (∀ j, j < k → (f j).1 ≠ 0) ∧ Hid (Below w.heap.size w wr) ∧ Hid (wr.cell? ⟨w.heap.size, 0, none⟩ = some (.int .i64 0)) ∧ Hid (wr.cell? ⟨w.heap.size, 1, none⟩ = some (.int .i64 0))) (fun iv _ => N - (intOf iv).toNat)
  case atStart => exact ⟨0, rfl, Nat.zero_le _, Lib.hid (fun j h => absurd h (Nat.not_lt_zero _)), HB, HB0, HB1⟩
  case round =>
    clear HB HB0 HB1
    obtain ⟨k, rfl, hk, HN, HB, HB0, HB1⟩ := hrel
    by_cases hlt : k < N
    · have hltI : (k : Int) < (N : Int) := by omega
      obtain ⟨⟨y1, y2⟩, hy⟩ : ∃ y, f k = y := ⟨_, rfl⟩
      have HO2 := Lib.hid (owns_later HO.out HB.out)
      obtain ⟨g, rfl, k0, k1⟩ := own_at HO2.out hlt hy
      have b0 := HB0.out
      have b1 := HB1.out
      have HY := Lib.hid hy
      clear hy HO2
      by_cases h0 : y1 = 0
      · obtain rfl : y2 = 0 := by
          have h3 := HI.out.no k hlt (by rw [HY.out]; exact h0)
          rw [HY.out] at h3
          exact congrArg Prod.snd h3
        subst h0
        have HV := Lib.hid (ixV_some (leastF_of hlt (show (f k).1 = 0 by rw [HY.out]) HN.out))
        have k0 : wr.cell? ⟨g, k * 2, none⟩ = some (.int .i64 0) := k0
        have k1 : wr.cell? ⟨g, k * 2 + 1, none⟩ = some (.int .i64 0) := k1
        have hq := ow_same
        go_wp2_with (fail)
        go_quiet (fail)
        go_wp2_with (fail)
        go_ret
        exact ⟨by rw [HV.out]; rfl, below_drewN HB.out _⟩
      · have HN2 := Lib.hid (show ∀ j, j < k + 1 → (f j).1 ≠ 0 from fun j hj => by
          by_cases h : j < k
          · exact HN.out j h
          · obtain rfl : j = k := by omega
            rw [HY.out]; exact h0)
        have hq := fun W => ow_else (y := (y2 : Int)) h0 W
        have HB2 := Lib.hid (fun n => below_drewN HB.out n)
        have HC0 := Lib.hid (fun n => ((below_drewN (Below.refl wr.heap.size wr) n).cell (p := ⟨w.heap.size, 0, none⟩) (World.block_lt_of_cell? _ _ b0)).trans b0)
        have HC1 := Lib.hid (fun n => ((below_drewN (Below.refl wr.heap.size wr) n).cell (p := ⟨w.heap.size, 1, none⟩) (World.block_lt_of_cell? _ _ b1)).trans b1)
        clear h0
        go_wp2_with (fail)
        go_quiet (fail)
        go_wp2_with (fail)
        go_roundw
        case rel => exact ⟨k + 1, by go_num, hlt, HN2, Lib.hid (HB2.out _), Lib.hid (HC0.out _), Lib.hid (HC1.out _)⟩
        case measure => simp [intOf]; omega
    · obtain rfl : k = N := by omega
      have HV := Lib.hid (ixV_none (leastF_full HN.out))
      go_wp2_with (fail)
      go_ret
      exact ⟨by rw [HV.out]; rfl, HB.out⟩
end Go.Proofs.Ytenfeamohcclaaa
